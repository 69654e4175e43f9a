/-
  TellP, TellE, StrikeN, PutP, PutS, DrawTr, DecT, RegX, DecT2, DrawMs, RegY, DrawQs, NameS, PathS: laid as one text.
-/
import Derived.Test.YtjlflmbifeocbaaZbe
import Derived.Test.YtjlflmbifeocbaaTreeMem
import Derived.Test.YtjlflmbifeocbaaEntL
import Derived.Test.YtjlflmbifeocbaaSetP
import Derived.Test.YtjlflmbifeocbaaZbd
import Derived.Test.YtjlflmbifeocbaaLaterQ
import Derived.Test.YtjlflmbifeocbaaDrawPth
import Derived.Test.YtjlflmbifeocbaaDrawTx
import Derived.Test.YtjlflmbifeocbaaZbc
import Derived.Test.YtjlflmbifeocbaaSplitP
import Derived.Test.YtjlflmbifeocbaaZba
import Derived.Test.YtjlflmbifeocbaaNameP
import Derived.Test.YtjlflmbifeocbaaStrsB
import Derived.Test.YtjlflmbifeocbaaBase
namespace Go.Proofs.Ytjlflmbifeocbaa
open Go.RowKit

/-- A tree as it is when it is told. -/
structure GoodT (K : Nat) (β : Way → Option Nat) (φ : Way → Option (ByteArray × Bool)) : Prop where
  name : ∀ q x, β (q ++ [x]) ≠ none → x.size ≤ 20 ∧ (47 : UInt8) ∉ x.data.toList
  deep : ∀ q, β q ≠ none → q.length ≤ 6
  up : ∀ q x, β (q ++ [x]) ≠ none → β q ≠ none
  leaf : ∀ q x, φ q ≠ none → β (q ++ [x]) = none
  node : ∀ q, φ q ≠ none → β q ≠ none
  text : ∀ q t r, φ q = some (t, r) → t.size ≤ 1500
  few : ∃ F : List Way, F.length ≤ K ∧ ∀ q, φ q ≠ none → q ∈ F

theorem GoodT.pre {K : Nat} {β : Way → Option Nat} {φ : Way → Option (ByteArray × Bool)} (h : GoodT K β φ) : ∀ (t q : Way), β (q ++ t) ≠ none → β q ≠ none
  | [], q, hq => by simpa using hq
  | x :: t, q, hq => by
    have h1 : β ((q ++ [x]) ++ t) ≠ none := by rw [List.append_assoc]; exact hq
    exact h.up q x (h.pre t (q ++ [x]) h1)

def Tells (φ : Way → Option (ByteArray × Bool)) (p0 : Way) (e : En) : Prop := φ (p0 ++ partsB e.path) = some (e.text, e.runs)
/-- What stands in front of a path's parts. -/
def Front (f : ByteArray) (r : Way) : Prop := ∀ s : ByteArray, partsB (f ++ s) = r ++ partsB s

theorem parts_plain {x : ByteArray} (h : (47 : UInt8) ∉ x.data.toList) : partsB x = [x] := by
  rw [partsB, splitS_none _ (fun k hk => h (List.mem_of_getElem? hk))]
  simp [mkB_data]
theorem parts_app (x s : ByteArray) : partsB (x ++ ⟨#[47]⟩ ++ s) = partsB x ++ partsB s := by
  rw [partsB, show (x ++ ⟨#[47]⟩ ++ s).data.toList = x.data.toList ++ 47 :: s.data.toList by simp [ByteArray.data_append], split_app, List.map_append]
  rfl
theorem app_assoc (a b c : ByteArray) : a ++ b ++ c = a ++ (b ++ c) := by
  apply WideShapes.bytes_inj
  simp [ByteArray.data_append]
theorem front_nil : Front ⟨#[]⟩ [] := fun s => by
  have : (⟨#[]⟩ : ByteArray) ++ s = s := by apply WideShapes.bytes_inj; simp [ByteArray.data_append]
  rw [this]; rfl
theorem front_file {f x : ByteArray} {r : Way} (h : Front f r) (hx : (47 : UInt8) ∉ x.data.toList) : partsB (f ++ x) = r ++ [x] := by
  rw [h x, parts_plain hx]
theorem front_step {f x : ByteArray} {r : Way} (h : Front f r) (hx : (47 : UInt8) ∉ x.data.toList) : Front (f ++ x ++ ⟨#[47]⟩) (r ++ [x]) := fun s => by
  rw [show f ++ x ++ ⟨#[47]⟩ ++ s = f ++ (x ++ ⟨#[47]⟩ ++ s) by rw [app_assoc, app_assoc, app_assoc], h, parts_app, parts_plain hx]
  simp

theorem parts_ne (s : ByteArray) : partsB s ≠ [] := by
  unfold partsB
  intro h
  exact splitS_ne _ (by simpa using h)

/-- A path's bytes, by its parts. -/
theorem path_bytes {s : ByteArray} {r : Way} {x : ByteArray} {t : Way} (h : partsB s = r ++ x :: t) :
    s.data.toList = (if r = [] then [] else joinS (r.map fun y => y.data.toList) ++ [47]) ++ (if t = [] then x.data.toList else x.data.toList ++ 47 :: joinS (t.map fun y => y.data.toList)) := by
  have h1 : splitS s.data.toList = (r ++ x :: t).map fun y => y.data.toList := by
    rw [← h, partsB, List.map_map]
    rw [show ((fun y : ByteArray => y.data.toList) ∘ mkB) = id by funext l; simp [mkB_list]]
    simp
  have h2 := join_split s.data.toList
  rw [h1] at h2
  rw [← h2, List.map_append, List.map_cons]
  have hj : joinS (x.data.toList :: t.map fun y => y.data.toList) = if t = [] then x.data.toList else x.data.toList ++ 47 :: joinS (t.map fun y => y.data.toList) := by
    by_cases ht : t = []
    · subst ht; rfl
    · rw [if_neg ht, joinS_cons _ (by simpa using ht)]
  by_cases hr : r = []
  · subst hr
    rw [if_pos rfl]
    simpa using hj
  · rw [if_neg hr, joinS_append _ (by simpa using hr) (by simp), hj]
    simp

theorem told_begin {K : Nat} {β : Way → Option Nat} {φ : Way → Option (ByteArray × Bool)} (h : GoodT K β φ) {p0 r t : Way} {x : ByteArray} {e : En} (he : Tells φ p0 e) (hp : partsB e.path = r ++ x :: t) :
    ∃ rest, e.path.data.toList = (if r = [] then [] else joinS (r.map fun y => y.data.toList) ++ [47]) ++ (beginL (φ (p0 ++ r ++ [x])).isSome x.data.toList ++ rest) ∧ ((φ (p0 ++ r ++ [x])).isSome = true → rest = []) := by
  have hb := path_bytes hp
  have hw : φ (p0 ++ r ++ [x] ++ t) ≠ none := by
    unfold Tells at he
    rw [hp] at he
    rw [show p0 ++ r ++ [x] ++ t = p0 ++ (r ++ x :: t) by simp, he]
    simp
  cases ht : t with
  | nil =>
    rw [ht] at hb hw
    rw [List.append_nil] at hw
    have hs : (φ (p0 ++ r ++ [x])).isSome = true := by
      cases hc : φ (p0 ++ r ++ [x]) with
      | none => exact absurd hc hw
      | some _ => rfl
    refine ⟨[], ?_, fun _ => rfl⟩
    rw [hs, hb]
    simp [beginL]
  | cons y t' =>
    rw [ht] at hb hw
    have hn : φ (p0 ++ r ++ [x]) = none := by
      cases hc : φ (p0 ++ r ++ [x]) with
      | none => rfl
      | some f =>
        have h1 := h.leaf (p0 ++ r ++ [x]) y (by rw [hc]; simp)
        have h2 := h.node _ hw
        have h3 := h.pre t' (p0 ++ r ++ [x] ++ [y]) (by rw [List.append_assoc]; exact h2)
        exact absurd h1 h3
    refine ⟨joinS ((y :: t').map fun y => y.data.toList), ?_, fun hs => by rw [hn] at hs; cases hs⟩
    rw [hn, hb]
    simp [beginL]

theorem told_less {K : Nat} {β : Way → Option Nat} {φ : Way → Option (ByteArray × Bool)} (h : GoodT K β φ) {p0 r : Way} {x y : ByteArray} {e e' : En} (he : Tells φ p0 e) (he' : Tells φ p0 e') (hp : r ++ [x] <+: partsB e.path) (hp' : r ++ [y] <+: partsB e'.path)
    (hx : (47 : UInt8) ∉ x.data.toList) (hy : (47 : UInt8) ∉ y.data.toList) (hne : x ≠ y) (hl : Op.bytesLess (beginL (φ (p0 ++ r ++ [x])).isSome x.data.toList) (beginL (φ (p0 ++ r ++ [y])).isSome y.data.toList) = true) : Op.bytesLess e.path.toList e'.path.toList = true := by
  obtain ⟨t, ht⟩ := hp
  obtain ⟨t', ht'⟩ := hp'
  obtain ⟨rest, h1, h2⟩ := told_begin h he (t := t) (x := x) (r := r) (by rw [← ht]; simp)
  obtain ⟨rest', h1', _⟩ := told_begin h he' (t := t') (x := y) (r := r) (by rw [← ht']; simp)
  rw [Lib.toList_data, Lib.toList_data, h1, h1']
  exact kids_less _ _ _ hx hy (fun e => hne (WideShapes.bytes_inj e)) hl h2

/-- The names of a node's kids, in order. -/
structure NamesOf (β : Way → Option Nat) (φ : Way → Option (ByteArray × Bool)) (q : Way) (ns : List ByteArray) : Prop where
  mem : ∀ x, x ∈ ns ↔ β (q ++ [x]) ≠ none
  ord : ns.Pairwise fun x y => x ≠ y ∧ Op.bytesLess (beginL (φ (q ++ [x])).isSome x.data.toList) (beginL (φ (q ++ [y])).isSome y.data.toList) = true

/-- What was told before. -/
structure AccOk (φ : Way → Option (ByteArray × Bool)) (p0 r : Way) (acc : List En) : Prop where
  asc : Asc acc
  tells : ∀ e ∈ acc, Tells φ p0 e
  less : ∀ e ∈ acc, ∀ e', Tells φ p0 e' → r <+: partsB e'.path → r ≠ partsB e'.path → Op.bytesLess e.path.toList e'.path.toList = true

structure Told (φ : Way → Option (ByteArray × Bool)) (p0 r : Way) (acc us : List En) : Prop where
  asc : Asc us
  mem : ∀ e, e ∈ us ↔ e ∈ acc ∨ (Tells φ p0 e ∧ r <+: partsB e.path ∧ r ≠ partsB e.path)

structure Mid (φ : Way → Option (ByteArray × Bool)) (p0 r : Way) (acc : List En) (xs : List ByteArray) (us : List En) : Prop where
  asc : Asc us
  mem : ∀ e, e ∈ us ↔ e ∈ acc ∨ (Tells φ p0 e ∧ ∃ x ∈ xs, r ++ [x] <+: partsB e.path)

theorem Mid.start {φ : Way → Option (ByteArray × Bool)} {p0 r : Way} {acc : List En} (h : AccOk φ p0 r acc) : Mid φ p0 r acc [] acc := ⟨h.asc, fun e => by simp⟩
theorem Mid.tells {φ : Way → Option (ByteArray × Bool)} {p0 r : Way} {acc us : List En} {xs : List ByteArray} (h : AccOk φ p0 r acc) (m : Mid φ p0 r acc xs us) : ∀ e ∈ us, Tells φ p0 e := fun e he => by
  rcases (m.mem e).1 he with h1 | h1
  · exact h.tells e h1
  · exact h1.1

theorem ord_before {β : Way → Option Nat} {φ : Way → Option (ByteArray × Bool)} {q : Way} {ns : List ByteArray} (h : NamesOf β φ q ns) {k : Nat} (hk : k < ns.length) : ∀ x ∈ ns.take k, x ≠ ns[k] ∧ Op.bytesLess (beginL (φ (q ++ [x])).isSome x.data.toList) (beginL (φ (q ++ [ns[k]])).isSome ns[k].data.toList) = true := by
  intro x hx
  obtain ⟨j, hj, rfl⟩ := List.getElem_of_mem hx
  simp at hj
  rw [List.getElem_take]
  exact List.pairwise_iff_getElem.1 h.ord j k (by omega) hk (by omega)

theorem Mid.less {K : Nat} {β : Way → Option Nat} {φ : Way → Option (ByteArray × Bool)} (hG : GoodT K β φ) {p0 r : Way} {acc us : List En} {ns : List ByteArray} (hA : AccOk φ p0 r acc) (hN : NamesOf β φ (p0 ++ r) ns) {k : Nat} (hk : k < ns.length) (m : Mid φ p0 r acc (ns.take k) us) :
    ∀ e ∈ us, ∀ e', Tells φ p0 e' → r ++ [ns[k]] <+: partsB e'.path → Op.bytesLess e.path.toList e'.path.toList = true := by
  intro e he e' he' hp
  rcases (m.mem e).1 he with h1 | ⟨h1, x, hx, h2⟩
  · refine hA.less e h1 e' he' ((List.prefix_append r _).trans hp) (fun h3 => ?_)
    rw [← h3] at hp
    have := hp.length_le
    simp at this; omega
  · obtain ⟨h3, h4⟩ := ord_before hN hk x hx
    exact told_less hG h1 he' h2 hp (hG.name _ _ ((hN.mem x).1 (List.mem_of_mem_take hx))).2 (hG.name _ _ ((hN.mem _).1 (List.getElem_mem hk))).2 h3 h4

theorem take_succ_mem {α : Type} {ns : List α} {k : Nat} (hk : k < ns.length) (x : α) : x ∈ ns.take (k + 1) ↔ x ∈ ns.take k ∨ x = ns[k] := by
  rw [List.take_succ_eq_append_getElem hk, List.mem_append, List.mem_singleton]

theorem Mid.file {K : Nat} {β : Way → Option Nat} {φ : Way → Option (ByteArray × Bool)} (hG : GoodT K β φ) {p0 r : Way} {acc us : List En} {ns : List ByteArray} (hA : AccOk φ p0 r acc) (hN : NamesOf β φ (p0 ++ r) ns) {k : Nat} (hk : k < ns.length) (m : Mid φ p0 r acc (ns.take k) us)
    {f t : ByteArray} {rn : Bool} (hf : Front f r) (hφ : φ (p0 ++ r ++ [ns[k]]) = some (t, rn)) : Mid φ p0 r acc (ns.take (k + 1)) (us ++ [⟨f ++ ns[k], t, rn⟩]) := by
  have hx := (hG.name _ _ ((hN.mem _).1 (List.getElem_mem hk))).2
  have hpp := front_file hf hx
  have ht : Tells φ p0 ⟨f ++ ns[k], t, rn⟩ := by
    show φ (p0 ++ partsB (f ++ ns[k])) = _
    rw [hpp, ← List.append_assoc]
    exact hφ
  refine ⟨?_, fun e => ?_⟩
  · refine List.pairwise_append.2 ⟨m.asc, by simp, fun a ha b hb => ?_⟩
    rw [List.mem_singleton.1 hb]
    exact m.less hG hA hN hk a ha _ ht (by rw [hpp]; exact List.prefix_refl _)
  · rw [List.mem_append, List.mem_singleton, m.mem]
    constructor
    · rintro ((h | ⟨h, x, hx, h2⟩) | rfl)
      · exact .inl h
      · exact .inr ⟨h, x, (take_succ_mem hk x).2 (.inl hx), h2⟩
      · exact .inr ⟨ht, ns[k], (take_succ_mem hk _).2 (.inr rfl), by rw [hpp]; exact List.prefix_refl _⟩
    · rintro (h | ⟨h, x, hx, h2⟩)
      · exact .inl (.inl h)
      · rcases (take_succ_mem hk x).1 hx with h3 | rfl
        · exact .inl (.inr ⟨h, x, h3, h2⟩)
        · right
          obtain ⟨s, hs⟩ := h2
          have hs0 : s = [] := by
            cases s with
            | nil => rfl
            | cons y s' =>
              exfalso
              have h4 := hG.leaf (p0 ++ r ++ [ns[k]]) y (by rw [hφ]; simp)
              have h5 : φ (p0 ++ r ++ [ns[k]] ++ [y] ++ s') ≠ none := by
                unfold Tells at h
                rw [← hs] at h
                rw [show p0 ++ r ++ [ns[k]] ++ [y] ++ s' = p0 ++ (r ++ [ns[k]] ++ y :: s') by simp, h]
                simp
              exact absurd h4 (hG.pre s' _ (hG.node _ h5))
          subst hs0
          rw [List.append_nil] at hs
          have h6 : e.path = f ++ ns[k] := partsB_inj (hs.symm.trans hpp.symm)
          unfold Tells at h
          rw [← hs, ← List.append_assoc, hφ] at h
          injection h with h
          injection h with h7 h8
          cases e
          simp_all

theorem Mid.acc {K : Nat} {β : Way → Option Nat} {φ : Way → Option (ByteArray × Bool)} (hG : GoodT K β φ) {p0 r : Way} {acc us : List En} {ns : List ByteArray} (hA : AccOk φ p0 r acc) (hN : NamesOf β φ (p0 ++ r) ns) {k : Nat} (hk : k < ns.length) (m : Mid φ p0 r acc (ns.take k) us) : AccOk φ p0 (r ++ [ns[k]]) us :=
  ⟨m.asc, m.tells hA, fun e he e' he' hp _ => m.less hG hA hN hk e he e' he' hp⟩

theorem Mid.dir {φ : Way → Option (ByteArray × Bool)} {p0 r : Way} {acc us us' : List En} {ns : List ByteArray} {k : Nat} (hk : k < ns.length) (m : Mid φ p0 r acc (ns.take k) us) (hφ : φ (p0 ++ r ++ [ns[k]]) = none) (h : Told φ p0 (r ++ [ns[k]]) us us') : Mid φ p0 r acc (ns.take (k + 1)) us' := by
  refine ⟨h.asc, fun e => ?_⟩
  rw [h.mem, m.mem]
  constructor
  · rintro ((h1 | ⟨h1, x, hx, h2⟩) | ⟨h1, h2, _⟩)
    · exact .inl h1
    · exact .inr ⟨h1, x, (take_succ_mem hk x).2 (.inl hx), h2⟩
    · exact .inr ⟨h1, ns[k], (take_succ_mem hk _).2 (.inr rfl), h2⟩
  · rintro (h1 | ⟨h1, x, hx, h2⟩)
    · exact .inl (.inl h1)
    · rcases (take_succ_mem hk x).1 hx with h3 | rfl
      · exact .inl (.inr ⟨h1, x, h3, h2⟩)
      · refine .inr ⟨h1, h2, fun h3 => ?_⟩
        unfold Tells at h1
        rw [← h3, ← List.append_assoc, hφ] at h1
        cases h1

theorem Mid.done {K : Nat} {β : Way → Option Nat} {φ : Way → Option (ByteArray × Bool)} (hG : GoodT K β φ) {p0 r : Way} {acc us : List En} {ns : List ByteArray} (hN : NamesOf β φ (p0 ++ r) ns) (m : Mid φ p0 r acc ns us) : Told φ p0 r acc us := by
  refine ⟨m.asc, fun e => ?_⟩
  rw [m.mem]
  constructor
  · rintro (h1 | ⟨h1, x, _, h2⟩)
    · exact .inl h1
    · refine .inr ⟨h1, (List.prefix_append r _).trans h2, fun h3 => ?_⟩
      rw [← h3] at h2
      have := h2.length_le
      simp at this; omega
  · rintro (h1 | ⟨h1, ⟨t, ht⟩, h3⟩)
    · exact .inl h1
    · cases t with
      | nil => exact absurd (by rw [← ht]; simp) h3
      | cons x t =>
        refine .inr ⟨h1, x, (hN.mem x).2 ?_, ⟨t, by rw [← ht]; simp⟩⟩
        have h4 : φ (p0 ++ r ++ [x] ++ t) ≠ none := by
          unfold Tells at h1
          rw [← ht] at h1
          rw [show p0 ++ r ++ [x] ++ t = p0 ++ (r ++ x :: t) by simp, h1]
          simp
        exact hG.pre t _ (hG.node _ h4)

/-! How many. -/
theorem nodup_le : ∀ {l F : List Way}, l.Nodup → (∀ q ∈ l, q ∈ F) → l.length ≤ F.length
  | [], _, _, _ => Nat.zero_le _
  | x :: l, F, hn, hs => by
    obtain ⟨a, b, rfl⟩ := List.append_of_mem (hs x (by simp))
    have h1 := nodup_le (l := l) (F := a ++ b) (List.nodup_cons.1 hn).2 (fun q hq => by
      have h2 := hs q (by simp [hq])
      rcases List.mem_append.1 h2 with h3 | h3
      · exact List.mem_append.2 (.inl h3)
      · rcases List.mem_cons.1 h3 with h4 | h4
        · subst h4; exact absurd hq (List.nodup_cons.1 hn).1
        · exact List.mem_append.2 (.inr h4))
    simp only [List.length_cons, List.length_append] at h1 ⊢
    omega

theorem tells_few {K : Nat} {β : Way → Option Nat} {φ : Way → Option (ByteArray × Bool)} (hG : GoodT K β φ) {p0 : Way} {us : List En} (hA : Asc us) (hT : ∀ e ∈ us, Tells φ p0 e) : us.length ≤ K := by
  obtain ⟨F, hF, hm⟩ := hG.few
  have h1 := nodup_le (l := us.map fun e => p0 ++ partsB e.path) (F := F) (by
    unfold List.Nodup
    rw [List.pairwise_map]
    refine List.Pairwise.imp (fun {a b} h e => ?_) hA
    have := partsB_inj (List.append_cancel_left e)
    rw [this, less_irrefl] at h
    cases h) (fun q hq => by
      obtain ⟨e, he, rfl⟩ := List.mem_map.1 hq
      exact hm _ (by rw [hT e he]; simp))
  simp at h1
  omega
end Go.Proofs.Ytjlflmbifeocbaa

namespace Go.Proofs.Ytjlflmbifeocbaa
open Go.RowKit

theorem part_plain {x : ByteArray} (h : partOk pathB x = true) : x.size ≤ 20 ∧ (47 : UInt8) ∉ x.data.toList := by
  refine ⟨partOk_size h, fun hm => ?_⟩
  simp only [partOk, Bool.and_eq_true, List.all_eq_true] at h
  have := h.2 47 hm
  simp [pathB, globB] at this

theorem valid_en {ts : List En} (h : ValidTs ts) {e : En} (he : e ∈ ts) : enOk e = true := by
  obtain ⟨i, hi, rfl⟩ := List.getElem_of_mem he
  exact (h.2 i hi).2.1
theorem valid_free {ts : List En} (h : ValidTs ts) {e e' : En} (he : e ∈ ts) (he' : e' ∈ ts) : ¬ Begins e.path e'.path := by
  intro hb
  obtain ⟨i, hi, rfl⟩ := List.getElem_of_mem he
  obtain ⟨j, hj, rfl⟩ := List.getElem_of_mem he'
  have hl := begins_less hb
  rcases Nat.lt_trichotomy i j with h1 | h1 | h1
  · obtain ⟨_, _, _, h2⟩ := h.2 j hj
    refine h2 ts[i] ?_ hb
    rw [List.mem_take_iff_getElem]
    exact ⟨i, by omega, rfl⟩
  · subst h1
    rw [less_irrefl] at hl
    cases hl
  · have h2 := asc h.2 i hi j h1 hi hj
    have := less_trans hl h2
    rw [less_irrefl] at this
    cases this

theorem path_parts {s : ByteArray} (h : pathOk pathB s = true) : (partsB s).length ≤ 6 ∧ ∀ x ∈ partsB s, x.size ≤ 20 ∧ (47 : UInt8) ∉ x.data.toList := by
  simp only [pathOk, Bool.and_eq_true, decide_eq_true_eq, List.all_eq_true] at h
  exact ⟨h.1, fun x hx => part_plain (h.2 x hx)⟩

theorem enOk_parts {e : En} (h : enOk e = true) : (partsB e.path).length ≤ 6 ∧ (∀ x ∈ partsB e.path, x.size ≤ 20 ∧ (47 : UInt8) ∉ x.data.toList) ∧ e.text.size ≤ 1500 := by
  simp only [enOk, Bool.and_eq_true, decide_eq_true_eq] at h
  exact ⟨(path_parts h.1).1, (path_parts h.1).2, h.2⟩

theorem good_of_shape {ts : List En} {β : Way → Option Nat} {φ : Way → Option (ByteArray × Bool)} (hv : ValidTs ts) (hS : Shape ts β φ) : GoodT 100 β φ where
  name q x h := by
    rcases (hS.nodes _).1 h with h1 | ⟨e, he, h1⟩
    · simp at h1
    · exact (enOk_parts (valid_en hv he)).2.1 x (h1.subset (by simp))
  deep q h := by
    rcases (hS.nodes _).1 h with rfl | ⟨e, he, h1⟩
    · simp
    · exact Nat.le_trans h1.length_le (enOk_parts (valid_en hv he)).1
  up q x h := by
    rcases (hS.nodes _).1 h with h1 | ⟨e, he, h1⟩
    · simp at h1
    · exact (hS.nodes _).2 (.inr ⟨e, he, (List.prefix_append q _).trans h1⟩)
  leaf q x h := by
    cases hc : β (q ++ [x]) with
    | none => rfl
    | some b =>
      exfalso
      obtain ⟨e, he, rfl⟩ := (hS.files q).1 h
      rcases (hS.nodes _).1 (by rw [hc]; simp) with h1 | ⟨e', he', h1⟩
      · simp at h1
      · refine valid_free hv he he' (begins_iff.2 ⟨(List.prefix_append _ _).trans h1, fun e1 => ?_⟩)
        rw [← e1] at h1
        have := h1.length_le
        simp at this; omega
  node := hS.files_nodes
  text q t r h := by
    obtain ⟨e, he, rfl⟩ := (hS.files q).1 (by rw [h]; simp)
    have := hS.vals e he
    rw [h] at this
    injection this with this
    injection this with h1 h2
    rw [h1]
    exact (enOk_parts (valid_en hv he)).2.2
  few := ⟨ts.map fun e => partsB e.path, by simp; exact hv.1, fun q h => by
    obtain ⟨e, he, rfl⟩ := (hS.files q).1 h
    exact List.mem_map_of_mem he⟩

theorem GoodT.strike {K : Nat} {β : Way → Option Nat} {φ : Way → Option (ByteArray × Bool)} (h : GoodT K β φ) (p : Way) : GoodT K β (upd φ p none) := by
  have hq : ∀ q, upd φ p none q ≠ none → φ q ≠ none := fun q hq => by
    by_cases e : q = p
    · subst e; rw [upd_same] at hq; exact absurd rfl hq
    · rwa [upd_other _ _ e] at hq
  obtain ⟨F, hF, hm⟩ := h.few
  refine ⟨h.name, h.deep, h.up, fun q x hx => h.leaf q x (hq q hx), fun q hx => h.node q (hq q hx), fun q t r hx => ?_, F, hF, fun q hx => hm q (hq q hx)⟩
  by_cases e : q = p
  · subst e; rw [upd_same] at hx; cases hx
  · rw [upd_other _ _ e] at hx
    exact h.text q t r hx

theorem tells_iff {ts : List En} {β : Way → Option Nat} {φ : Way → Option (ByteArray × Bool)} (hS : Shape ts β φ) (e : En) : φ (partsB e.path) = some (e.text, e.runs) ↔ e ∈ ts := by
  constructor
  · intro h
    obtain ⟨e', he, hp⟩ := (hS.files _).1 (by rw [h]; simp)
    have h2 := hS.vals e' he
    rw [hp, h] at h2
    injection h2 with h2
    injection h2 with h3 h4
    have h5 := partsB_inj hp
    cases e; cases e'
    simp_all
  · exact hS.vals e

theorem acc_nil (φ : Way → Option (ByteArray × Bool)) (p0 r : Way) : AccOk φ p0 r [] := ⟨List.Pairwise.nil, fun e he => by simp at he, fun e he => by simp at he⟩
theorem told_mem {φ : Way → Option (ByteArray × Bool)} {p0 : Way} {us : List En} (h : Told φ p0 [] [] us) (e : En) : e ∈ us ↔ φ (p0 ++ partsB e.path) = some (e.text, e.runs) := by
  rw [h.mem]
  constructor
  · rintro (h1 | ⟨h1, _⟩)
    · simp at h1
    · exact h1
  · intro h1
    exact .inr ⟨h1, List.nil_prefix, fun e1 => parts_ne _ e1.symm⟩

/-- All but one. -/
def without (ts : List En) (p : ByteArray) : List En := ts.filter fun e => !(e.path.toList == p.toList)
theorem without_mem {ts : List En} {p : ByteArray} (e : En) : e ∈ without ts p ↔ e ∈ ts ∧ e.path ≠ p := by
  unfold without
  rw [List.mem_filter, Bool.not_eq_true']
  refine and_congr Iff.rfl ?_
  rw [Bool.eq_false_iff, ne_eq, beq_iff_eq, Lib.toList_data, Lib.toList_data]
  exact ⟨fun h e => h (by rw [e]), fun h e => h (WideShapes.bytes_inj e)⟩

theorem told_without {ts : List En} {β : Way → Option Nat} {φ : Way → Option (ByteArray × Bool)} (hv : ValidTs ts) (hS : Shape ts β φ) {p : ByteArray} {us : List En} (h : Told (upd φ (partsB p) none) [] [] [] us) : us = without ts p := by
  refine asc_unique h.asc ((valid_asc hv).filter _) (fun e => ?_)
  rw [told_mem h, without_mem, List.nil_append]
  by_cases e1 : e.path = p
  · rw [e1, upd_same]; simp
  · rw [upd_other _ _ (fun e2 => e1 (partsB_inj e2)), tells_iff hS]
    simp [e1]

/-- What lies below a directory. -/
def cutE (dir : ByteArray) (e : En) : En := ⟨e.path.extract (dir.size + 1) e.path.size, e.text, e.runs⟩
theorem begins_cut {dir p : ByteArray} (h : Begins dir p) : p.data.toList = dir.data.toList ++ 47 :: (p.extract (dir.size + 1) p.size).data.toList := by
  obtain ⟨r, hr⟩ := h
  have hl : p.data.toList.length = p.size := (Lib.size_eq p).symm
  have hd : dir.data.toList.length = dir.size := (Lib.size_eq dir).symm
  rw [extract_mkB, mkB_list, hr]
  congr 1
  rw [show dir.data.toList ++ 47 :: r = (dir.data.toList ++ [47]) ++ r by simp, List.drop_left' (by simp [hd]), List.take_of_length_le]
  have := congrArg List.length hr
  simp at this
  omega
theorem parts_cut {dir p : ByteArray} (h : Begins dir p) : partsB p = partsB dir ++ partsB (p.extract (dir.size + 1) p.size) := by
  rw [partsB, begins_cut h, split_app, List.map_append]
  rfl
def beginsB (d p : ByteArray) : Bool := (d.data.toList ++ [47]).isPrefixOf p.data.toList
theorem beginsB_iff {d p : ByteArray} : beginsB d p = true ↔ Begins d p := by
  unfold beginsB Begins
  rw [List.isPrefixOf_iff_prefix]
  constructor
  · rintro ⟨r, hr⟩; exact ⟨r, by rw [← hr]; simp⟩
  · rintro ⟨r, hr⟩; exact ⟨r, by rw [hr]; simp⟩
def under (ts : List En) (dir : ByteArray) : List En := (ts.filter fun e => beginsB dir e.path).map (cutE dir)

theorem told_under {ts : List En} {β : Way → Option Nat} {φ : Way → Option (ByteArray × Bool)} (hv : ValidTs ts) (hS : Shape ts β φ) {dir : ByteArray} {us : List En} (h : Told φ (partsB dir) [] [] us) : us = under ts dir := by
  refine asc_unique h.asc ?_ (fun e => ?_)
  · unfold under Asc
    rw [List.pairwise_map]
    refine List.Pairwise.imp_of_mem (fun {a b} ha hb hl => ?_) ((valid_asc hv).filter _)
    have h1 := beginsB_iff.1 (List.mem_filter.1 ha).2
    have h2 := beginsB_iff.1 (List.mem_filter.1 hb).2
    rw [Lib.toList_data, Lib.toList_data, begins_cut h1, begins_cut h2, less_front] at hl
    have hcons : ∀ x y : List UInt8, Op.bytesLess (47 :: x) (47 :: y) = Op.bytesLess x y := fun x y => less_front [47] x y
    rw [hcons] at hl
    rw [Lib.toList_data, Lib.toList_data]
    exact hl
  · rw [told_mem h, under, List.mem_map]
    constructor
    · intro h1
      obtain ⟨e', he, hp⟩ := (hS.files _).1 (show φ (partsB dir ++ partsB e.path) ≠ none by rw [h1]; simp)
      have hb : Begins dir e'.path := begins_iff.2 ⟨⟨_, hp.symm⟩, fun e1 => by
        rw [hp] at e1
        have := congrArg List.length e1
        have h3 := parts_ne e.path
        simp at this
        exact h3 this⟩
      refine ⟨e', List.mem_filter.2 ⟨he, beginsB_iff.2 hb⟩, ?_⟩
      have h2 := hS.vals e' he
      rw [hp, h1] at h2
      injection h2 with h2
      injection h2 with h3 h4
      have h5 : e'.path.extract (dir.size + 1) e'.path.size = e.path := by
        have := parts_cut hb
        rw [hp] at this
        exact (partsB_inj (List.append_cancel_left this)).symm
      unfold cutE
      rw [h5]
      cases e
      simp_all
    · rintro ⟨e', he, rfl⟩
      obtain ⟨he1, he2⟩ := List.mem_filter.1 he
      have hb := beginsB_iff.1 he2
      show φ (partsB dir ++ partsB (e'.path.extract (dir.size + 1) e'.path.size)) = some (e'.text, e'.runs)
      rw [← parts_cut hb]
      exact hS.vals e' he1
end Go.Proofs.Ytjlflmbifeocbaa

namespace Go.Proofs.Ytjlflmbifeocbaa
open Go.RowKit

def setN (W : World) (b : Nat) : World := ((W.setCell ⟨b, 0, none⟩ (.bool false)).setCell ⟨b, 1, none⟩ (.string ⟨#[]⟩)).setCell ⟨b, 2, none⟩ (.bool false)
theorem setN_same {W : World} {b mb : Nat} {f : Option (ByteArray × Bool)} (h : W.heap[b]? = some (nodeObj f mb)) : (setN W b).heap[b]? = some (nodeObj none mb) := by
  have h' : ∃ x y z, W.heap[b]? = some (.cells #[x, y, z, .map (some mb)] 117) := by
    cases f with
    | none => exact ⟨_, _, _, h⟩
    | some g => obtain ⟨t', r'⟩ := g; exact ⟨_, _, _, h⟩
  obtain ⟨x, y, z, h'⟩ := h'
  unfold setN World.setCell
  simp [Array.getElem?_modify, h', nodeObj]
theorem setN_other {W : World} {b k : Nat} (h : k ≠ b) : (setN W b).heap[k]? = W.heap[k]? := by
  unfold setN
  rw [Below.heap_setCell _ _ _ _ (show k ≠ b from h), Below.heap_setCell _ _ _ _ (show k ≠ b from h), Below.heap_setCell _ _ _ _ (show k ≠ b from h)]
theorem setN_below {W w0 : World} {B b : Nat} (h : Below B w0 W) (hb : B ≤ b) : Below B w0 (setN W b) :=
  ((h.setCell (p := ⟨b, 0, none⟩) hb _).setCell (p := ⟨b, 1, none⟩) hb _).setCell (p := ⟨b, 2, none⟩) hb _

theorem TreeM.strike {lo N : Nat} {W : World} {β : Way → Option Nat} {μ : Way → Nat} {φ : Way → Option (ByteArray × Bool)} {p : Way} {b : Nat} (h : TreeM lo N W β μ φ) (hb : β p = some b) : TreeM lo N (setN W b) β μ (upd φ p none) := by
  refine ⟨fun q bq hq => ?_, h.inj, h.minj, h.up, h.root⟩
  obtain ⟨h1, h2, h3, h4⟩ := h.node q bq hq
  have hm : μ q ≠ b := fun e => by
    obtain ⟨es, cl, h5⟩ := h4.obj
    obtain ⟨h6, _⟩ := h.node p b hb
    rw [e, h6] at h5
    unfold nodeObj at h5
    split at h5 <;> cases h5
  refine ⟨?_, h2, h3, h4.block (setN_other hm)⟩
  by_cases e : q = p
  · subst e
    rw [hb] at hq
    cases hq
    rw [upd_same]
    exact setN_same h1
  · rw [upd_other _ _ e]
    exact (setN_other (fun e' => e (h.inj q p b (by rw [← e']; exact hq) hb))).trans h1
end Go.Proofs.Ytjlflmbifeocbaa

namespace Go.Proofs.Ytjlflmbifeocbaa
open Go.RowKit

/-- What is in the way of an entry. -/
def InWay (ts : List En) (e : En) : Prop := ∃ x ∈ ts, Begins x.path e.path ∨ Begins e.path x.path

/-- What Put gives. -/
def PutR (ts : List En) (e : En) (us : List En) (c : Int) : Prop :=
  (¬ ValidTs ts ∧ us = [] ∧ c = 1) ∨ (ValidTs ts ∧ enOk e = false ∧ us = [] ∧ c = 2) ∨ (ValidTs ts ∧ enOk e = true ∧ InWay ts e ∧ us = [] ∧ c = 3) ∨
  (ValidTs ts ∧ enOk e = true ∧ ¬ InWay ts e ∧ ∃ vs, SetRel ts e vs ∧ ((100 < vs.length ∧ us = [] ∧ c = 4) ∨ (vs.length ≤ 100 ∧ us = vs ∧ c = 0)))

theorem put_one {ts : List En} {e : En} {us us' : List En} {c c' : Int} (h : PutR ts e us c) (h' : PutR ts e us' c') : us = us' ∧ c = c' := by
  rcases h with ⟨h1, rfl, rfl⟩ | ⟨h1, h2, rfl, rfl⟩ | ⟨h1, h2, h3, rfl, rfl⟩ | ⟨h1, h2, h3, vs, h4, h5⟩ <;>
    rcases h' with ⟨g1, rfl, rfl⟩ | ⟨g1, g2, rfl, rfl⟩ | ⟨g1, g2, g3, rfl, rfl⟩ | ⟨g1, g2, g3, vs', g4, g5⟩ <;>
    first | exact ⟨rfl, rfl⟩ | exact absurd g1 h1 | exact absurd h1 g1 | exact absurd (h2.symm.trans g2) (by decide) | exact absurd g3 h3 | exact absurd h3 g3 | skip
  obtain rfl := h4.one g4
  rcases h5 with ⟨h5, rfl, rfl⟩ | ⟨h5, rfl, rfl⟩ <;> rcases g5 with ⟨g5, rfl, rfl⟩ | ⟨g5, rfl, rfl⟩ <;> first | exact ⟨rfl, rfl⟩ | omega

theorem put_few {ts : List En} {e : En} {us : List En} {c : Int} (h : PutR ts e us c) : us.length ≤ 100 := by
  rcases h with ⟨_, rfl, _⟩ | ⟨_, _, rfl, _⟩ | ⟨_, _, _, rfl, _⟩ | ⟨_, _, _, vs, _, ⟨_, rfl, _⟩ | ⟨h, rfl, _⟩⟩
  · simp
  · simp
  · simp
  · simp
  · exact h

def PutPost (ts : List En) (en : En) (w : World) (e : Ending) (w' : World) : Prop := ∃ us c, PutR ts en us c ∧ TreeR us c w.heap.size e w' ∧ Below w.heap.size w w'

theorem upd_none {φ : Way → Option (ByteArray × Bool)} {p : Way} (h : φ p = none) : upd φ p none = φ := by
  funext q
  by_cases e : q = p
  · subst e; rw [upd_same, h]
  · exact upd_other _ _ e

/-- What is in the way of an entry, in the tree. -/
theorem blocked_set {ts : List En} {β : Way → Option Nat} {φ : Way → Option (ByteArray × Bool)} (h : Shape ts β φ) (e : En) :
    Blocked β (upd φ (partsB e.path) none) (partsB e.path) ↔ InWay ts e := by
  constructor
  · rintro (⟨q, h1, h2, h3⟩ | h1 | ⟨x, h1⟩)
    · rw [upd_other _ _ h2] at h3
      obtain ⟨e', he, rfl⟩ := (h.files q).1 h3
      exact ⟨e', he, .inl (begins_iff.2 ⟨h1, h2⟩)⟩
    · rw [upd_same] at h1; exact absurd rfl h1
    · rcases (h.nodes _).1 h1 with h2 | ⟨e', he, h2⟩
      · simp at h2
      · exact ⟨e', he, .inr (begins_iff.2 ⟨(List.prefix_append _ [x]).trans h2, fun e1 => by rw [← e1] at h2; have := h2.length_le; simp at this; omega⟩)⟩
  · rintro ⟨e', he, hb | hb⟩
    · obtain ⟨h1, h2⟩ := begins_iff.1 hb
      refine .inl ⟨_, h1, h2, ?_⟩
      rw [upd_other _ _ h2]
      exact (h.files _).2 ⟨e', he, rfl⟩
    · obtain ⟨⟨t, ht⟩, h2⟩ := begins_iff.1 hb
      cases t with
      | nil => exact absurd (by rw [← ht]; simp) h2
      | cons x t => exact .inr (.inr ⟨x, (h.nodes _).2 (.inr ⟨e', he, ⟨t, by rw [← ht]; simp⟩⟩)⟩)

theorem GoodT.lay {K : Nat} {β β' : Way → Option Nat} {φ : Way → Option (ByteArray × Bool)} (h : GoodT K β φ) {p : ByteArray} (hp : pathOk pathB p = true) {t : ByteArray} {r : Bool} (ht : t.size ≤ 1500) (hno : ¬ Blocked β φ (partsB p)) (hβ : ∀ q, β' q ≠ none ↔ β q ≠ none ∨ q <+: partsB p) :
    GoodT (K + 1) β' (upd φ (partsB p) (some (t, r))) := by
  obtain ⟨hl, hx⟩ := path_parts hp
  have hφ : ∀ q, upd φ (partsB p) (some (t, r)) q ≠ none → q = partsB p ∨ φ q ≠ none := fun q hq => by
    by_cases e : q = partsB p
    · exact .inl e
    · rw [upd_other _ _ e] at hq; exact .inr hq
  obtain ⟨F, hF, hm⟩ := h.few
  refine ⟨fun q x hq => ?_, fun q hq => ?_, fun q x hq => ?_, fun q x hq => ?_, fun q hq => ?_, fun q t' r' hq => ?_, partsB p :: F, by simp; omega, fun q hq => ?_⟩
  · rcases (hβ _).1 hq with h1 | h1
    · exact h.name q x h1
    · exact hx x (h1.subset (by simp))
  · rcases (hβ _).1 hq with h1 | h1
    · exact h.deep q h1
    · exact Nat.le_trans h1.length_le hl
  · rcases (hβ _).1 hq with h1 | h1
    · exact (hβ _).2 (.inl (h.up q x h1))
    · exact (hβ _).2 (.inr ((List.prefix_append q _).trans h1))
  · cases hc : β' (q ++ [x]) with
    | none => rfl
    | some b =>
      exfalso
      rcases (hβ (q ++ [x])).1 (by rw [hc]; simp) with h1 | h1
      · rcases hφ q hq with rfl | h2
        · exact hno (.inr (.inr ⟨x, h1⟩))
        · exact h1 (h.leaf q x h2)
      · rcases hφ q hq with rfl | h2
        · have := h1.length_le; simp at this; omega
        · exact hno (.inl ⟨q, (List.prefix_append q _).trans h1, fun e => by rw [e] at h1; have := h1.length_le; simp at this; omega, h2⟩)
  · rcases hφ q hq with rfl | h2
    · exact (hβ _).2 (.inr (List.prefix_refl _))
    · exact (hβ _).2 (.inl (h.node q h2))
  · by_cases e : q = partsB p
    · subst e
      rw [upd_same] at hq
      injection hq with hq
      injection hq with h1 h2
      rw [← h1]; exact ht
    · rw [upd_other _ _ e] at hq
      exact h.text q t' r' hq
  · rcases hφ q hq with rfl | h2
    · simp
    · exact List.mem_cons_of_mem _ (hm q h2)

theorem told_set {ts : List En} {β : Way → Option Nat} {φ : Way → Option (ByteArray × Bool)} (hS : Shape ts β φ) {e : En} {us : List En} (h : Told (upd (upd φ (partsB e.path) none) (partsB e.path) (some (e.text, e.runs))) [] [] [] us) : SetRel ts e us := by
  refine ⟨h.asc, fun x => ?_⟩
  rw [told_mem h, List.nil_append]
  by_cases e1 : x.path = e.path
  · rw [e1, upd_same]
    constructor
    · intro h1
      injection h1 with h1
      injection h1 with h2 h3
      left
      cases x; cases e
      simp_all
    · rintro (rfl | ⟨_, h1⟩)
      · rfl
      · exact absurd rfl h1
  · rw [upd_other _ _ (fun e2 => e1 (partsB_inj e2)), upd_other _ _ (fun e2 => e1 (partsB_inj e2)), tells_iff hS]
    constructor
    · intro h1; exact .inr ⟨h1, e1⟩
    · rintro (rfl | ⟨h1, _⟩)
      · exact absurd rfl e1
      · exact h1
end Go.Proofs.Ytjlflmbifeocbaa

namespace Go.Proofs.Ytjlflmbifeocbaa
open Go.RowKit

/-- Whether one of two is in the way of the other. -/
def wayB (x e : ByteArray) : Bool := beginsB x e || beginsB e x
theorem wayB_iff {x e : ByteArray} : wayB x e = true ↔ Begins x e ∨ Begins e x := by
  unfold wayB
  rw [Bool.or_eq_true, beginsB_iff, beginsB_iff]

theorem el_setQ {B g : Nat} {w : World} {a : Option Addr} {ts : List En} {u : Value} (h : EL B w a ts) (hg : g < B) : EL B (w.setCell ⟨g, 0, none⟩ u) a ts :=
  h.grown (row := some g) ⟨rfl, rfl, rfl, by simp, fun k _ hk => Below.heap_setCell _ _ _ _ (fun e => hk (by rw [e]))⟩ (fun k _ hk _ e => by cases e; omega)

/-- What Put gives, with the room that there is. -/
def PutPostC (ts : List En) (en : En) (w : World) (e : Ending) (w' : World) : Prop := ∃ us c, PutR ts en us c ∧ (∃ ad cap, e = .returned (TreeV ad us.length cap c) ∧ EL w.heap.size w' ad us ∧ us.length ≤ cap) ∧ Below w.heap.size w w'

set_option maxRecDepth 100000 in
set_option maxHeartbeats 4000000 in
theorem specPutC_any (a : Option Addr) (cap : Nat) (ts : List En) (en : En) (w : World) (hts : ES w a ts) (hn : ts.length ≤ 1048576) :
    Calls Try.prog 25 #[.agg #[.slice a ts.length cap], .agg #[.string en.path, .string en.text, .bool en.runs]] w fun e w' => PutPostC ts en w e w' := by
  have hal : Below w.heap.size w (((w.alloc (.cells #[.slice a ts.length cap] 25)).alloc (.cells #[.string en.path, .string en.text, .bool en.runs] 57)).alloc (.cells #[.slice none 0 0] 25)) := (((Below.refl _ _).alloc (Nat.le_refl _) _).alloc (by simp) _).alloc (by simp; omega) _
  have m0 : (((w.alloc (.cells #[.slice a ts.length cap] 25)).alloc (.cells #[.string en.path, .string en.text, .bool en.runs] 57)).alloc (.cells #[.slice none 0 0] 25)).cell? ⟨w.heap.size, 0, none⟩ = some (.slice a ts.length cap) := by simp [go_sem]
  have e0 : (((w.alloc (.cells #[.slice a ts.length cap] 25)).alloc (.cells #[.string en.path, .string en.text, .bool en.runs] 57)).alloc (.cells #[.slice none 0 0] 25)).cell? ⟨w.heap.size + 1, 0, none⟩ = some (.string en.path) := by simp [go_sem]
  have e1 : (((w.alloc (.cells #[.slice a ts.length cap] 25)).alloc (.cells #[.string en.path, .string en.text, .bool en.runs] 57)).alloc (.cells #[.slice none 0 0] 25)).cell? ⟨w.heap.size + 1, 1, none⟩ = some (.string en.text) := by simp [go_sem]
  have e2 : (((w.alloc (.cells #[.slice a ts.length cap] 25)).alloc (.cells #[.string en.path, .string en.text, .bool en.runs] 57)).alloc (.cells #[.slice none 0 0] 25)).cell? ⟨w.heap.size + 1, 2, none⟩ = some (.bool en.runs) := by simp [go_sem]
  have k0 : (((w.alloc (.cells #[.slice a ts.length cap] 25)).alloc (.cells #[.string en.path, .string en.text, .bool en.runs] 57)).alloc (.cells #[.slice none 0 0] 25)).cell? ⟨w.heap.size + 1 + 1, 0, none⟩ = some (.slice none 0 0) := by simp [go_sem]
  have kf : (((w.alloc (.cells #[.slice a ts.length cap] 25)).alloc (.cells #[.string en.path, .string en.text, .bool en.runs] 57)).alloc (.cells #[.slice none 0 0] 25)).frozen? ⟨w.heap.size + 1 + 1, 0, none⟩ = false := by simp [go_sem]
  have ks : w.heap.size + 1 + 1 < (((w.alloc (.cells #[.slice a ts.length cap] 25)).alloc (.cells #[.string en.path, .string en.text, .bool en.runs] 57)).alloc (.cells #[.slice none 0 0] 25)).heap.size := by simp [go_sem]
  go_enter Try.func25, Try.ntmps25
  go_wp2_with fail
  refine (specTree_any a cap ts _ (hts.below hal) hn).mono ?_
  rintro e w1 ⟨vb, rfl, hvb, hb1⟩
  generalize ((w.alloc (.cells #[.slice a ts.length cap] 25)).alloc (.cells #[.string en.path, .string en.text, .bool en.runs] 57)).alloc (.cells #[.slice none 0 0] 25) = w0 at *
  obtain ⟨g, hg⟩ : ∃ g, g = w.heap.size + 1 + 1 := ⟨_, rfl⟩
  obtain ⟨be, hbe⟩ : ∃ be, be = w.heap.size + 1 := ⟨_, rfl⟩
  obtain ⟨tb, htb⟩ : ∃ tb, tb = w.heap.size := ⟨_, rfl⟩
  rw [← hg] at k0 kf ks ⊢
  rw [← hbe] at e0 e1 e2 ⊢
  rw [← htb] at m0 ⊢
  have hgw : w.heap.size ≤ g := by omega
  have HS : Keep (tb = w.heap.size ∧ be = tb + 1 ∧ g = tb + 2) := ⟨by omega⟩
  clear hg hbe htb
  replace k0 := cell_later hb1 k0
  replace kf : w1.frozen? ⟨g, 0, none⟩ = false := (hb1.frozen (p := ⟨g, 0, none⟩) ks).trans kf
  replace e0 := cell_later hb1 e0
  replace e1 := cell_later hb1 e1
  replace e2 := cell_later hb1 e2
  replace m0 := cell_later hb1 m0
  have ks1 : g < w1.heap.size := Nat.lt_of_lt_of_le ks hb1.size
  have hbw := hal.trans (hb1.mono hal.size)
  have HV : Keep (vb = true ↔ ValidTs ts) := ⟨hvb⟩
  clear hb1 hal hvb ks
  cases vb with
  | false =>
    have hnv : ¬ ValidTs ts := fun h => by have := HV.out.2 h; cases this
    go_wp2
    refine bodyPost_ret (v := TreeV none ([] : List En).length 0 1) ?_ rfl ⟨[], 1, .inl ⟨hnv, rfl, rfl⟩, ⟨none, 0, rfl, EL.nil _ _ _, Nat.le_refl _⟩, hbw.setCell (p := ⟨g, 0, none⟩) hgw _⟩
    go_light
    simp [results, Try.results25, go_sem, TreeV, k0]
  | true =>
    have hv := HV.out.1 rfl
    go_wp2_with fail
    refine (specPath_any en.path w1).mono ?_
    rintro e w2 ⟨rfl, hb2⟩
    replace k0 := cell_later hb2 k0
    replace kf : w2.frozen? ⟨g, 0, none⟩ = false := (hb2.frozen (p := ⟨g, 0, none⟩) ks1).trans kf
    replace e0 := cell_later hb2 e0
    replace e1 := cell_later hb2 e1
    replace e2 := cell_later hb2 e2
    replace m0 := cell_later hb2 m0
    have ks2 : g < w2.heap.size := Nat.lt_of_lt_of_le ks1 hb2.size
    have hbw2 := hbw.trans (hb2.mono hbw.size)
    clear hb2 hbw ks1
    cases hpk : pathOk pathB en.path with
    | false =>
      have hok : enOk en = false := by simp [enOk, hpk]
      go_wp2
      refine bodyPost_ret (v := TreeV none ([] : List En).length 0 2) ?_ rfl ⟨[], 2, .inr (.inl ⟨hv, hok, rfl, rfl⟩), ⟨none, 0, rfl, EL.nil _ _ _, Nat.le_refl _⟩, hbw2.setCell (p := ⟨g, 0, none⟩) hgw _⟩
      go_light
      simp [results, Try.results25, go_sem, TreeV, k0]
    | true =>
      by_cases htx : (1500 : Int) < en.text.size
      · have hok : enOk en = false := by simp [enOk, hpk]; omega
        go_wp2
        refine bodyPost_ret (v := TreeV none ([] : List En).length 0 2) ?_ rfl ⟨[], 2, .inr (.inl ⟨hv, hok, rfl, rfl⟩), ⟨none, 0, rfl, EL.nil _ _ _, Nat.le_refl _⟩, hbw2.setCell (p := ⟨g, 0, none⟩) hgw _⟩
        go_light
        simp [results, Try.results25, go_sem, TreeV, k0]
      · have hok : enOk en = true := by simp [enOk, hpk]; omega
        go_wp2
        go_loopw [6] (fun i wr => ∃ k : Nat, i = .int .i64 k ∧ k ≤ ts.length ∧ Keep (∀ x ∈ ts.take k, wayB x.path en.path = false) ∧ Below w2.heap.size w2 wr) (fun i _ => ts.length - (intOf i).toNat)
        case atStart => exact ⟨0, rfl, Nat.zero_le _, ⟨fun x hx => by simp at hx⟩, Below.refl _ _⟩
        case round =>
          obtain ⟨k, rfl, hk, hno, hbr⟩ := hrel
          have mr := cell_later hbr m0
          have E0 := cell_later hbr e0
          have E1 := cell_later hbr e1
          have E2 := cell_later hbr e2
          have K0 := cell_later hbr k0
          have KF : wr.frozen? ⟨g, 0, none⟩ = false := (hbr.frozen (p := ⟨g, 0, none⟩) ks2).trans kf
          have hbw3 := hbw2.trans (hbr.mono hbw2.size)
          have hEr := hts.below hbw3
          have hzr : g < wr.heap.size := Nat.lt_of_lt_of_le ks2 hbr.size
          by_cases hlt : k < ts.length
          · have hlt' : (k : Int) < ts.length := by omega
            obtain ⟨b, off, rfl, hc⟩ := hEr.at hlt
            obtain ⟨x0, _, _⟩ := hc k hlt
            clear hc hEr
            obtain ⟨xp, hxp⟩ : ∃ xp, ts[k].path = xp := ⟨_, rfl⟩
            obtain ⟨ep, hep⟩ : ∃ ep, en.path = ep := ⟨_, rfl⟩
            have HXP : Keep (ts[k].path = xp ∧ en.path = ep) := ⟨⟨hxp, hep⟩⟩
            have cj : ∀ x : Later wr, x.world.cell? ⟨b, off + k * 3, none⟩ = some (.string xp) := fun x => by rw [← hxp]; exact cell_later x.kept x0
            have z0 : ∀ x : Later wr, x.world.cell? ⟨be, 0, none⟩ = some (.string ep) := fun x => by rw [← hep]; exact cell_later x.kept E0
            clear hxp hep
            have zT : ∀ x : Later wr, x.world.cell? ⟨tb, 0, none⟩ = some (.slice (some ⟨b, off, none⟩) ts.length cap) := fun x => cell_later x.kept mr
            have HK : Keep (wr.cell? ⟨g, 0, none⟩ = some (.slice none 0 0) ∧ wr.frozen? ⟨g, 0, none⟩ = false ∧ g < wr.heap.size) := ⟨⟨K0, KF, hzr⟩⟩
            have HB : Keep (Below w2.heap.size w2 wr ∧ Below w.heap.size w wr) := ⟨⟨hbr, hbw3⟩⟩
            clear x0 E0 E1 E2 K0 KF hzr hbr hbw3 e0 e1 e2 k0 kf m0 ks2 hbw2 hts
            cases hq1 : beginsB ts[k].path en.path with
            | true =>
              have HWY : Keep (wayB ts[k].path en.path = true) := ⟨by simp [wayB, hq1]⟩
              have HC1 : Keep (∀ x : Later wr, Calls Try.prog 37 #[.string xp, .string ep] x.world fun e w'' => e = .returned (.bool true) ∧ ∃ y : Later wr, w'' = y.world) := ⟨fun x => Later.call x (begins_lit true (by rw [← HXP.out.1, ← HXP.out.2, ← beginsB_iff, hq1]) _)⟩
              have HC2 := HC1
              clear hq1
              go_wp2_with fail
              (haveI := later_any; refine wp_region_later (by kernel_rfl) (by kernel_rfl) ?_; (repeat (go_big_quiet_step (first | (go_at_call_of 37 ([Value.string xp, Value.string ep] : List Value); exact HC1.out _) | (go_at_call_of 37 ([Value.string ep, Value.string xp] : List Value); exact HC2.out _)))); refine wpQuiet_nil ?_; intro _ hwq; obtain ⟨xq, hwq2⟩ := hwq; subst hwq2)
              have K1 := cell_later xq.kept HK.out.1
              have KF1 : xq.world.frozen? ⟨g, 0, none⟩ = false := (xq.kept.frozen (p := ⟨g, 0, none⟩) HK.out.2.2).trans HK.out.2.1
              have hbr1 : Below w2.heap.size w2 xq.world := HB.out.1.trans (xq.kept.mono HB.out.1.size)
              have hbw1 : Below w.heap.size w xq.world := HB.out.2.trans (xq.kept.mono HB.out.2.size)
              clear cj z0 zT
              have hway : InWay ts en := ⟨ts[k], List.getElem_mem hlt, wayB_iff.1 HWY.out⟩
              go_wp2
              refine bodyPost_ret (v := TreeV none ([] : List En).length 0 3) ?_ rfl ⟨[], 3, .inr (.inr (.inl ⟨hv, hok, hway, rfl, rfl⟩)), ⟨none, 0, rfl, EL.nil _ _ _, Nat.le_refl _⟩, hbw1.setCell (p := ⟨g, 0, none⟩) hgw _⟩
              go_light
              simp [results, Try.results25, go_sem, TreeV, K1]
            | false =>
              cases hq2 : beginsB en.path ts[k].path with
              | true =>
                have HWY : Keep (wayB ts[k].path en.path = true) := ⟨by simp [wayB, hq2]⟩
                have HC1 : Keep (∀ x : Later wr, Calls Try.prog 37 #[.string xp, .string ep] x.world fun e w'' => e = .returned (.bool false) ∧ ∃ y : Later wr, w'' = y.world) := ⟨fun x => Later.call x (begins_lit false (by rw [← HXP.out.1, ← HXP.out.2, ← beginsB_iff, hq1]) _)⟩
                have HC2 : Keep (∀ x : Later wr, Calls Try.prog 37 #[.string ep, .string xp] x.world fun e w'' => e = .returned (.bool true) ∧ ∃ y : Later wr, w'' = y.world) := ⟨fun x => Later.call x (begins_lit true (by rw [← HXP.out.1, ← HXP.out.2, ← beginsB_iff, hq2]) _)⟩
                clear hq1 hq2
                go_wp2_with fail
                (haveI := later_any; refine wp_region_later (by kernel_rfl) (by kernel_rfl) ?_; (repeat (go_big_quiet_step (first | (go_at_call_of 37 ([Value.string xp, Value.string ep] : List Value); exact HC1.out _) | (go_at_call_of 37 ([Value.string ep, Value.string xp] : List Value); exact HC2.out _)))); refine wpQuiet_nil ?_; intro _ hwq; obtain ⟨xq, hwq2⟩ := hwq; subst hwq2)
                have K1 := cell_later xq.kept HK.out.1
                have KF1 : xq.world.frozen? ⟨g, 0, none⟩ = false := (xq.kept.frozen (p := ⟨g, 0, none⟩) HK.out.2.2).trans HK.out.2.1
                have hbr1 : Below w2.heap.size w2 xq.world := HB.out.1.trans (xq.kept.mono HB.out.1.size)
                have hbw1 : Below w.heap.size w xq.world := HB.out.2.trans (xq.kept.mono HB.out.2.size)
                clear cj z0 zT
                have hway : InWay ts en := ⟨ts[k], List.getElem_mem hlt, wayB_iff.1 HWY.out⟩
                go_wp2
                refine bodyPost_ret (v := TreeV none ([] : List En).length 0 3) ?_ rfl ⟨[], 3, .inr (.inr (.inl ⟨hv, hok, hway, rfl, rfl⟩)), ⟨none, 0, rfl, EL.nil _ _ _, Nat.le_refl _⟩, hbw1.setCell (p := ⟨g, 0, none⟩) hgw _⟩
                go_light
                simp [results, Try.results25, go_sem, TreeV, K1]
              | false =>
                have HNO : Keep (∀ x ∈ ts.take (k + 1), wayB x.path en.path = false) := ⟨fun x hx => by
                  rcases (mem_take_succ hlt x).1 hx with h3 | rfl
                  · exact hno.out x h3
                  · simp [wayB, hq1, hq2]⟩
                have HC1 : Keep (∀ x : Later wr, Calls Try.prog 37 #[.string xp, .string ep] x.world fun e w'' => e = .returned (.bool false) ∧ ∃ y : Later wr, w'' = y.world) := ⟨fun x => Later.call x (begins_lit false (by rw [← HXP.out.1, ← HXP.out.2, ← beginsB_iff, hq1]) _)⟩
                have HC2 : Keep (∀ x : Later wr, Calls Try.prog 37 #[.string ep, .string xp] x.world fun e w'' => e = .returned (.bool false) ∧ ∃ y : Later wr, w'' = y.world) := ⟨fun x => Later.call x (begins_lit false (by rw [← HXP.out.1, ← HXP.out.2, ← beginsB_iff, hq2]) _)⟩
                clear hq1 hq2
                go_wp2_with fail
                (haveI := later_any; refine wp_region_later (by kernel_rfl) (by kernel_rfl) ?_; (repeat (go_big_quiet_step (first | (go_at_call_of 37 ([Value.string xp, Value.string ep] : List Value); exact HC1.out _) | (go_at_call_of 37 ([Value.string ep, Value.string xp] : List Value); exact HC2.out _)))); refine wpQuiet_nil ?_; intro _ hwq; obtain ⟨xq, hwq2⟩ := hwq; subst hwq2)
                have K1 := cell_later xq.kept HK.out.1
                have KF1 : xq.world.frozen? ⟨g, 0, none⟩ = false := (xq.kept.frozen (p := ⟨g, 0, none⟩) HK.out.2.2).trans HK.out.2.1
                have hbr1 : Below w2.heap.size w2 xq.world := HB.out.1.trans (xq.kept.mono HB.out.1.size)
                have hbw1 : Below w.heap.size w xq.world := HB.out.2.trans (xq.kept.mono HB.out.2.size)
                clear cj z0 zT
                go_wp2
                go_roundw
                case rel => exact ⟨k + 1, by congr 1, hlt, HNO, hbr1⟩
                case measure => simp only [intOf]; omega
          · obtain rfl : k = ts.length := by omega
            have hfree : ¬ InWay ts en := fun ⟨x, hx, hw⟩ => by
              have := hno.out x (by rw [List.take_length]; exact hx)
              rw [wayB_iff.2 hw] at this
              cases this
            have hset := l5SetC_any a cap ts en wr hEr hn (valid_asc hv)
            clear hno hEr
            go_wp2_with fail
            refine hset.mono ?_
            rintro e w4 ⟨ad, cap4, us, rfl, hrel, hel, hb4, hlen, hroom⟩
            replace K0 := cell_later hb4 K0
            replace KF : w4.frozen? ⟨g, 0, none⟩ = false := (hb4.frozen (p := ⟨g, 0, none⟩) hzr).trans KF
            have hbw4 := hbw3.trans (hb4.mono hbw3.size)
            have hz4 : g < w4.heap.size := Nat.lt_of_lt_of_le hzr hb4.size
            have Ka : ∀ u o, ((w4.setCell ⟨g, 0, none⟩ u).alloc o).cell? ⟨g, 0, none⟩ = some u := fun u o => cell_later ((Below.refl _ _).alloc (Nat.le_refl _) _) (World.cell?_setCell_same _ _ _ K0)
            have hbw5 : ∀ u o, Below w.heap.size w ((w4.setCell ⟨g, 0, none⟩ u).alloc o) := fun u o => (hbw4.setCell (p := ⟨g, 0, none⟩) hgw u).alloc (hbw4.setCell (p := ⟨g, 0, none⟩) hgw u).size o
            have hel5 : ∀ u o, EL w.heap.size ((w4.setCell ⟨g, 0, none⟩ u).alloc o) ad us := fun u o => ((el_setQ (u := u) hel hzr).below ((Below.refl _ _).alloc (Nat.le_refl _) _)).mono hbw3.size
            clear hset hb4 mr E0 E1 E2 hel
            by_cases h100 : (100 : Int) < us.length
            · go_wp2
              refine bodyPost_ret (v := TreeV none ([] : List En).length 0 4) ?_ rfl ⟨[], 4, .inr (.inr (.inr ⟨hv, hok, hfree, us, hrel, .inl ⟨by omega, rfl, rfl⟩⟩)), ⟨none, 0, rfl, EL.nil _ _ _, Nat.le_refl _⟩, hbw5 _ _⟩
              go_light
              simp [results, Try.results25, go_sem, TreeV, Ka]
            · go_wp2
              refine bodyPost_ret (v := TreeV ad us.length cap4 0) ?_ rfl ⟨us, 0, .inr (.inr (.inr ⟨hv, hok, hfree, us, hrel, .inr ⟨by omega, rfl, rfl⟩⟩)), ⟨ad, cap4, rfl, hel5 _ _, hroom⟩, hbw5 _ _⟩
              go_light
              simp [results, Try.results25, go_sem, TreeV, Ka]

theorem specPut_any (a : Option Addr) (cap : Nat) (ts : List En) (en : En) (w : World) (hts : ES w a ts) (hn : ts.length ≤ 1048576) :
    Calls Try.prog 25 #[.agg #[.slice a ts.length cap], .agg #[.string en.path, .string en.text, .bool en.runs]] w fun e w' => PutPost ts en w e w' :=
  (specPutC_any a cap ts en w hts hn).mono (fun _ _ ⟨us, c, h1, ⟨ad, cp, h2, h3, _⟩, h4⟩ => ⟨us, c, h1, ⟨ad, cp, h2, h3⟩, h4⟩)
end Go.Proofs.Ytjlflmbifeocbaa

namespace Go.Proofs.Ytjlflmbifeocbaa
open Go.RowKit

def Tiny (P T : Nat) (ts : List En) : Prop := ∀ e ∈ ts, e.path.size ≤ P ∧ e.text.size ≤ T
/-- Where an address of a slice is none there is no room. -/
def NilOk (ad : Option Addr) (cp : Nat) : Prop := (∃ x, ad = some x) ∨ (ad = none ∧ cp = 0)
theorem NilOk.ne {B : Nat} {w : World} {ad : Option Addr} {cp : Nat} {ts : List En} (h : EL B w ad ts) (hne : ts ≠ []) : NilOk ad cp := by
  rcases h with h | ⟨g, h, _⟩
  · exact absurd h hne
  · exact .inl ⟨_, h⟩

/-- A tree in a box, beside a reader. -/
structure LD5 (g : Nat) (a : Option Addr) (cap : Nat) (zs : List Int) (w : World) (rs tb : Nat) (ad : Option Addr) (cp : Nat) (ts : List En) (p : Nat) (W : World) : Prop where
  rd : Rd W g a cap zs p
  gr : w.grownBy W (some g)
  rc : W.cell? ⟨rs, 0, none⟩ = some (.slice none 0 0)
  rf : W.frozen? ⟨rs, 0, none⟩ = false
  tc : W.cell? ⟨tb, 0, none⟩ = some (.slice ad ts.length cp)
  tf : W.frozen? ⟨tb, 0, none⟩ = false
  el : EL (tb + 1) W ad ts
  ord : g < rs ∧ rs < tb
theorem LD5.lt {g : Nat} {a : Option Addr} {cap : Nat} {zs : List Int} {w : World} {rs tb : Nat} {ad : Option Addr} {cp : Nat} {ts : List En} {p : Nat} {W : World} (h : LD5 g a cap zs w rs tb ad cp ts p W) : tb < W.heap.size := World.block_lt_of_cell? W ⟨tb, 0, none⟩ h.tc
theorem LD5.ltr {g : Nat} {a : Option Addr} {cap : Nat} {zs : List Int} {w : World} {rs tb : Nat} {ad : Option Addr} {cp : Nat} {ts : List En} {p : Nat} {W : World} (h : LD5 g a cap zs w rs tb ad cp ts p W) : rs < W.heap.size := World.block_lt_of_cell? W ⟨rs, 0, none⟩ h.rc
theorem fz_blk {w w' : World} {g j : Nat} (h : w'.heap[g]? = w.heap[g]?) (hf : w.frozen? ⟨g, j, none⟩ = false) : w'.frozen? ⟨g, j, none⟩ = false := by
  unfold World.frozen? at hf ⊢
  simp only at hf ⊢
  rw [h]; exact hf
theorem LD5.step {g : Nat} {a : Option Addr} {cap : Nat} {zs : List Int} {w : World} {rs tb : Nat} {ad : Option Addr} {cp : Nat} {ts : List En} {p p' : Nat} {W W' : World} (h : LD5 g a cap zs w rs tb ad cp ts p W) (hg : W.grownBy W' (some g)) (hR : Rd W' g a cap zs p') : LD5 g a cap zs w rs tb ad cp ts p' W' := by
  have o := h.ord
  have b1 := hg.block rs h.ltr (by simp; omega)
  have b2 := hg.block tb h.lt (by simp; omega)
  exact ⟨hR, gr_trans h.gr hg, (World.cell?_of_block b1).trans h.rc, fz_blk b1 h.rf, (World.cell?_of_block b2).trans h.tc, fz_blk b2 h.tf, h.el.grown hg (fun k _ hk _ e => by cases e; omega), o⟩
theorem LD5.later {g : Nat} {a : Option Addr} {cap : Nat} {zs : List Int} {w : World} {rs tb : Nat} {ad : Option Addr} {cp : Nat} {ts : List En} {p : Nat} {W W' : World} (h : LD5 g a cap zs w rs tb ad cp ts p W) (hb : Below W.heap.size W W') : LD5 g a cap zs w rs tb ad cp ts p W' := h.step (gr_below hb) (h.rd.below hb)
theorem LD5.al {g : Nat} {a : Option Addr} {cap : Nat} {zs : List Int} {w : World} {rs tb : Nat} {ad : Option Addr} {cp : Nat} {ts : List En} {p : Nat} {W : World} (h : LD5 g a cap zs w rs tb ad cp ts p W) (o : Obj) : LD5 g a cap zs w rs tb ad cp ts p (W.alloc o) := h.later (below_oneD _ _)
theorem LD5.drew {g : Nat} {a : Option Addr} {cap : Nat} {zs : List Int} {w : World} {rs tb : Nat} {ad : Option Addr} {cp : Nat} {ts : List En} {p : Nat} {W : World} (h : LD5 g a cap zs w rs tb ad cp ts p W) : LD5 g a cap zs w rs tb ad cp ts p W.drew := h.later (Below.refl _ _).drew
/-- Another tree is put into the box. -/
theorem LD5.put {g : Nat} {a : Option Addr} {cap : Nat} {zs : List Int} {w : World} {rs tb : Nat} {ad ad' : Option Addr} {cp cp' : Nat} {ts us : List En} {p : Nat} {W : World} (h : LD5 g a cap zs w rs tb ad cp ts p W) (he : EL (tb + 1) W ad' us) (hw : w.heap.size ≤ tb) : LD5 g a cap zs w rs tb ad' cp' us p (W.setCell ⟨tb, 0, none⟩ (.slice ad' us.length cp')) := by
  have o := h.ord
  have hg : W.grownBy (W.setCell ⟨tb, 0, none⟩ (.slice ad' us.length cp')) (some tb) := grown_set W tb 0 _
  refine ⟨h.rd.kept hg (fun k e => by cases e; omega), gr_own h.gr hg (fun j e => by cases e; exact hw), ?_, (World.frozen?_setCell _ _ _ _).trans h.rf, World.cell?_setCell_same _ _ _ h.tc, (World.frozen?_setCell _ _ _ _).trans h.tf, he.grown hg (fun k _ hk _ e => by cases e; omega), o⟩
  exact (World.cell?_of_block (Below.heap_setCell _ _ _ _ (by show rs ≠ tb; omega))).trans h.rc

/-- The same, behind a world of some size. -/
structure QD (lo g : Nat) (a : Option Addr) (cap : Nat) (zs : List Int) (w : World) (rs tb : Nat) (ad : Option Addr) (cp : Nat) (ts : List En) (p : Nat) (W : World) : Prop where
  ld : LD5 g a cap zs w rs tb ad cp ts p W
  sz : lo ≤ W.heap.size
theorem QD.step {lo g : Nat} {a : Option Addr} {cap : Nat} {zs : List Int} {w : World} {rs tb : Nat} {ad : Option Addr} {cp : Nat} {ts : List En} {p p' : Nat} {W W' : World} (h : QD lo g a cap zs w rs tb ad cp ts p W) (hg : W.grownBy W' (some g)) (hR : Rd W' g a cap zs p') : QD lo g a cap zs w rs tb ad cp ts p' W' := ⟨h.ld.step hg hR, Nat.le_trans h.sz hg.size⟩
theorem QD.al {lo g : Nat} {a : Option Addr} {cap : Nat} {zs : List Int} {w : World} {rs tb : Nat} {ad : Option Addr} {cp : Nat} {ts : List En} {p : Nat} {W : World} (h : QD lo g a cap zs w rs tb ad cp ts p W) (o : Obj) : QD lo g a cap zs w rs tb ad cp ts p (W.alloc o) := ⟨h.ld.al o, Nat.le_trans h.sz (by simp)⟩
theorem QD.drew {lo g : Nat} {a : Option Addr} {cap : Nat} {zs : List Int} {w : World} {rs tb : Nat} {ad : Option Addr} {cp : Nat} {ts : List En} {p : Nat} {W : World} (h : QD lo g a cap zs w rs tb ad cp ts p W) : QD lo g a cap zs w rs tb ad cp ts p W.drew := ⟨h.ld.drew, h.sz⟩

/-- A box that was made beside. -/
structure NC (lo nc : Nat) (W : World) : Prop where
  cell : W.cell? ⟨nc, 0, none⟩ = some (.slice none 0 0)
  fz : W.frozen? ⟨nc, 0, none⟩ = false
  lo : lo ≤ nc
theorem NC.lt {lo nc : Nat} {W : World} (h : NC lo nc W) : nc < W.heap.size := World.block_lt_of_cell? W ⟨nc, 0, none⟩ h.cell
theorem NC.step {g lo nc : Nat} {W W' : World} (h : NC lo nc W) (hg : W.grownBy W' (some g)) (hgt : g < lo) : NC lo nc W' := by
  have b := hg.block nc h.lt (by have := h.lo; simp; omega)
  exact ⟨(World.cell?_of_block b).trans h.cell, fz_blk b h.fz, h.lo⟩
theorem NC.newA {g lo : Nat} {Y W' : World} {t : TypeId} (hs : lo ≤ Y.heap.size) (hg : (Y.alloc (.cells #[.slice none 0 0] t)).grownBy W' (some g)) (hgt : g < lo) : NC lo Y.heap.size W' := by
  have b := hg.block Y.heap.size (by simp) (by simp; omega)
  exact ⟨(World.cell?_of_block b).trans (by simp), fz_blk b (by simp), hs⟩
theorem NC.newD {g lo : Nat} {Y W' : World} {t : TypeId} (hs : lo ≤ Y.heap.size) (hg : (Y.alloc (.cells #[.slice none 0 0] t)).drew.grownBy W' (some g)) (hgt : g < lo) : NC lo Y.heap.size W' := by
  have b := hg.block Y.heap.size (by simp) (by simp; omega)
  exact ⟨(World.cell?_of_block b).trans (by simp), fz_blk b (by simp), hs⟩

/-- Behind spec.Put in a region that draws. -/
def CutP (g : Nat) (a : Option Addr) (cap : Nat) (zs : List Int) (w : World) (rs tb : Nat) (ad : Option Addr) (cp : Nat) (ts : List En) (P T p : Nat) (pv cc : Value) (W : World) : Prop :=
  ∃ us c ad' cp' nc p2 en, pv = .pointer (some ⟨nc, 0, none⟩) ∧ cc = .int .i64 c ∧ Tiny P T [en] ∧ PutR ts en us c ∧ EL (tb + 1) W ad' us ∧ W.cell? ⟨nc, 0, none⟩ = some (.slice ad' us.length cp') ∧ LD5 g a cap zs w rs tb ad cp ts p2 W ∧ p2 ≤ p
theorem cutP_mk {g : Nat} {a : Option Addr} {cap : Nat} {zs : List Int} {w : World} {rs tb : Nat} {ad ad' : Option Addr} {cp cp' : Nat} {ts us : List En} {P T p p2 : Nat} {c : Int} {en : En} {B : Nat} {W : World} (he : Tiny P T [en]) (hR : PutR ts en us c) (hel : EL B W ad' us) (hB : tb < B) (hl : LD5 g a cap zs w rs tb ad cp ts p2 W) (hp : p2 ≤ p) :
    CutP g a cap zs w rs tb ad cp ts P T p (.pointer (some ⟨W.heap.size, 0, none⟩)) (.int .i64 c) (W.alloc (.cells #[.slice ad' us.length cp'] 25)) :=
  ⟨us, c, ad', cp', W.heap.size, p2, en, rfl, rfl, he, hR, (hel.below (below_oneD _ _)).mono hB, by simp, hl.al _, hp⟩
theorem cutP_mk' {g : Nat} {a : Option Addr} {cap : Nat} {zs : List Int} {w : World} {rs tb : Nat} {ad ad' : Option Addr} {cp cp' : Nat} {ts us : List En} {P T p p2 : Nat} {c : Int} {en : En} {B nc : Nat} {W : World} (he : Tiny P T [en]) (hR : PutR ts en us c) (hel : EL B W ad' us) (hB : tb < B) (hl : LD5 g a cap zs w rs tb ad cp ts p2 W) (hp : p2 ≤ p) {lo : Nat} (N : NC lo nc W) (hn : nc < B) (hlo : tb < lo) (hw : w.heap.size ≤ tb) (hap : ts = [] ∨ ∃ k, blk ad = some k ∧ k < lo) :
    CutP g a cap zs w rs tb ad cp ts P T p (.pointer (some ⟨nc, 0, none⟩)) (.int .i64 c) (W.setCell ⟨nc, 0, none⟩ (.slice ad' us.length cp')) := by
  have hg : W.grownBy (W.setCell ⟨nc, 0, none⟩ (.slice ad' us.length cp')) (some nc) := grown_set W nc 0 _
  have o := hl.ord
  have lo := N.lo
  refine ⟨us, c, ad', cp', nc, p2, en, rfl, rfl, he, hR, (hel.grown hg (fun k _ hk _ e => by cases e; omega)).mono hB, World.cell?_setCell_same _ _ _ N.cell, ?_, hp⟩
  refine ⟨hl.rd.kept hg (fun k e => by cases e; omega), gr_own hl.gr hg (fun j e => by cases e; omega), ?_, (World.frozen?_setCell _ _ _ _).trans hl.rf, ?_, (World.frozen?_setCell _ _ _ _).trans hl.tf, ?_, o⟩
  · exact (World.cell?_of_block (Below.heap_setCell _ _ _ _ (by show rs ≠ nc; omega))).trans hl.rc
  · exact (World.cell?_of_block (Below.heap_setCell _ _ _ _ (by show tb ≠ nc; omega))).trans hl.tc
  · rcases hap with h | h
    · subst h; exact EL.nil _ _ _
    · obtain ⟨k0, h1, h2⟩ := h
      exact hl.el.grown hg (fun k hk _ _ e => by rw [h1] at hk; cases hk; cases e; omega)
end Go.Proofs.Ytjlflmbifeocbaa

namespace Go.Proofs.Ytjlflmbifeocbaa
open Go.RowKit

theorem conv_oneM (x : Int) (w : World) : (convert 22 9 (.slice (some ⟨w.heap.size, 0, none⟩) 1 1)).run Try.prog (w.alloc (.cells #[.int .u8 x] 5)) = .ok (.string (strOfNums [x])) (w.alloc (.cells #[.int .u8 x] 5)) := by
  refine run_convert_bytes_arg _ 22 5 Try.underlying22 Try.underlying5 _ 0 1 1 [x] rfl ?_ 9 Try.underlying9
  intro i hi
  obtain rfl : i = 0 := by omega
  simp

set_option maxHeartbeats 1000000 in
theorem dec_any (n : Nat) (w : World) (hn : n < 10) :
    Calls Try.prog 27 #[.int .i64 (n : Int)] w fun e w' => ∃ s : ByteArray, e = .returned (.string s) ∧ s.size = 1 ∧ Below w.heap.size w w' := by
  have hcv := conv_oneM (48 + (n : Int)) w
  have hn' : (n : Int) < 10 := by omega
  go_enter Try.func27, Try.ntmps27
  go_wp2
  go_ret
  exact ⟨_, rfl, by rw [strOfNums_size]; rfl, (Below.refl _ _).alloc (Nat.le_refl _) _⟩
end Go.Proofs.Ytjlflmbifeocbaa

namespace Go.Proofs.Ytjlflmbifeocbaa
open Go.RowKit

theorem eval_put_same {a : Act} {d : Nat} {v : Value} (hd : d < a.tmps.size) : (a.put (some d) v).eval (.tmp d) = v := by
  show ((a.tmps.setIfInBounds d v).getD d undef) = v
  rw [Array.getD_eq_getD_getElem?, Array.getElem?_setIfInBounds_self_of_lt hd]
  rfl
theorem nodup_ne {ds : List Nat} (nd : ds.Nodup) {i j : Nat} (hi : i < ds.length) (hj : j < ds.length) (h : j ≠ i) : ds[j] ≠ ds[i] := fun e => by
  rcases Nat.lt_trichotomy j i with h1 | h1 | h1
  · exact List.pairwise_iff_getElem.1 nd j i hj hi h1 e
  · exact h h1
  · exact List.pairwise_iff_getElem.1 nd i j hi hj h1 e.symm
theorem getD_of_set {L : Array Bool} {i j : Nat} (h : (L.setIfInBounds i true).getD j false = true) (hne : j ≠ i) : L.getD j false = true := by
  rwa [getD_set_ne false (fun e => hne e.symm)] at h

structure EV0 (T0 : Array Value) (ds : List Nat) (tab : Nat → Option Value) (ex : Nat → Value → World → Prop) (W : World) (L : Array Bool) (a : Act) (w : World) : Prop where
  sl : Sl2 T0 ds tab L a
  wd : Below W.heap.size W w
  ex : ∀ i (h : i < ds.length), L.getD i false = true → ex i (a.eval (.tmp ds[i])) w
theorem EV0.step {T0 : Array Value} {ds : List Nat} {tab : Nat → Option Value} {ex : Nat → Value → World → Prop} {W : World} {L : Array Bool} {a : Act} {w w' : World} (h : EV0 T0 ds tab ex W L a w) (nd : ds.Nodup) (hst : ∀ i v w w', Below w.heap.size w w' → ex i v w → ex i v w') {i : Nat} {v : Value} (hi : i < ds.length) (hd : ds[i] < T0.size) (ht : ∀ u, tab i = some u → u = v) (he : ex i v w') (hb : Below w.heap.size w w') : EV0 T0 ds tab ex W (L.setIfInBounds i true) (a.put (some ds[i]) v) w' := by
  refine ⟨h.sl.put nd hi hd ht, h.wd.trans (hb.mono h.wd.size), fun j hj hL => ?_⟩
  by_cases e : j = i
  · subst e
    rw [eval_put_same (by rw [h.sl.sz]; exact hd)]
    exact he
  · rw [Act.eval_put (fun d hd' => by cases hd'; intro e'; injection e' with e'; exact nodup_ne nd hi hj e e')]
    exact hst j _ _ _ hb (h.ex j hj (getD_of_set hL e))

structure EVS (T0 : Array Value) (ds : List Nat) (tab : Nat → Option Value) (ex : Nat → Value → World → Prop) (W : World) (m : Nat) (E : World → Prop) (L : Array Bool) (a : Act) (w : World) : Prop where
  sl : Sl2 T0 ds tab L a
  wd : L.getD m false = false → Below W.heap.size W w
  ex : L.getD m false = false → ∀ i (h : i < ds.length), L.getD i false = true → ex i (a.eval (.tmp ds[i])) w
  fin : L.getD m false = true → E w
theorem EVS.step {T0 : Array Value} {ds : List Nat} {tab : Nat → Option Value} {ex : Nat → Value → World → Prop} {W : World} {m : Nat} {E : World → Prop} {L : Array Bool} {a : Act} {w w' : World} (h : EVS T0 ds tab ex W m E L a w) (nd : ds.Nodup) (hst : ∀ i v w w', Below w.heap.size w w' → ex i v w → ex i v w') {i : Nat} {v : Value} (hi : i < ds.length) (hd : ds[i] < T0.size) (hm : i ≠ m) (h0 : L.getD m false = false) (ht : ∀ u, tab i = some u → u = v) (he : ex i v w') (hb : Below w.heap.size w w') : EVS T0 ds tab ex W m E (L.setIfInBounds i true) (a.put (some ds[i]) v) w' := by
  have g : (L.setIfInBounds i true).getD m false = false := by rw [getD_set_ne false hm]; exact h0
  refine ⟨h.sl.put nd hi hd ht, fun _ => (h.wd h0).trans (hb.mono (h.wd h0).size), fun _ j hj hL => ?_, fun h1 => by rw [g] at h1; cases h1⟩
  by_cases e : j = i
  · subst e
    rw [eval_put_same (by rw [h.sl.sz]; exact hd)]
    exact he
  · rw [Act.eval_put (fun d hd' => by cases hd'; intro e'; injection e' with e'; exact nodup_ne nd hi hj e e')]
    exact hst j _ _ _ hb (h.ex h0 j hj (getD_of_set hL e))
theorem EVS.last {T0 : Array Value} {ds : List Nat} {tab : Nat → Option Value} {ex : Nat → Value → World → Prop} {W : World} {m : Nat} {E : World → Prop} {L : Array Bool} {a : Act} {w w' : World} (h : EVS T0 ds tab ex W m E L a w) (ht : tab m = none) (hL : L.getD m true = false) (hE : E w') : EVS T0 ds tab ex W m E (L.setIfInBounds m true) a w' := by
  have g : (L.setIfInBounds m true).getD m false = true := by
    have h1 := getD_false hL
    have h2 : m < L.size := by simpa using (List.getElem?_eq_some_iff.1 h1).1
    rw [Array.getD_eq_getD_getElem?, Array.getElem?_setIfInBounds_self_of_lt h2]
    rfl
  exact ⟨h.sl.skip ht, (fun h1 => by rw [g] at h1; cases h1), (fun h1 => by rw [g] at h1; cases h1), fun _ => hE⟩

/-- As EVS, with what stands of the world ('I') and how it goes on ('Rl') left open. -/
structure EVG (T0 : Array Value) (ds : List Nat) (tab : Nat → Option Value) (ex : Nat → Value → World → Prop) (I : Array Bool → World → Prop) (m : Nat) (E : World → Prop) (L : Array Bool) (a : Act) (w : World) : Prop where
  sl : Sl2 T0 ds tab L a
  wd : L.getD m false = false → I L w
  ex : L.getD m false = false → ∀ i (h : i < ds.length), L.getD i false = true → ex i (a.eval (.tmp ds[i])) w
  fin : L.getD m false = true → E w
theorem EVG.step {T0 : Array Value} {ds : List Nat} {tab : Nat → Option Value} {ex : Nat → Value → World → Prop} {I : Array Bool → World → Prop} {m : Nat} {E : World → Prop} {L : Array Bool} {a : Act} {w w' : World} (h : EVG T0 ds tab ex I m E L a w) (nd : ds.Nodup) (hst : ∀ i v, ex i v w → ex i v w') {i : Nat} {v : Value} (hi : i < ds.length) (hd : ds[i] < T0.size) (hm : i ≠ m) (h0 : L.getD m false = false) (ht : ∀ u, tab i = some u → u = v) (he : ex i v w') (hI : I (L.setIfInBounds i true) w') : EVG T0 ds tab ex I m E (L.setIfInBounds i true) (a.put (some ds[i]) v) w' := by
  have g : (L.setIfInBounds i true).getD m false = false := by rw [getD_set_ne false hm]; exact h0
  refine ⟨h.sl.put nd hi hd ht, fun _ => hI, fun _ j hj hL => ?_, fun h1 => by rw [g] at h1; cases h1⟩
  by_cases e : j = i
  · subst e
    rw [eval_put_same (by rw [h.sl.sz]; exact hd)]
    exact he
  · rw [Act.eval_put (fun d hd' => by cases hd'; intro e'; injection e' with e'; exact nodup_ne nd hi hj e e')]
    exact hst j _ (h.ex h0 j hj (getD_of_set hL e))
theorem EVG.last {T0 : Array Value} {ds : List Nat} {tab : Nat → Option Value} {ex : Nat → Value → World → Prop} {I : Array Bool → World → Prop} {m : Nat} {E : World → Prop} {L : Array Bool} {a : Act} {w w' : World} (h : EVG T0 ds tab ex I m E L a w) (ht : tab m = none) (hL : L.getD m true = false) (hE : E w') : EVG T0 ds tab ex I m E (L.setIfInBounds m true) a w' := by
  have g : (L.setIfInBounds m true).getD m false = true := by
    have h1 := getD_false hL
    have h2 : m < L.size := by simpa using (List.getElem?_eq_some_iff.1 h1).1
    rw [Array.getD_eq_getD_getElem?, Array.getElem?_setIfInBounds_self_of_lt h2]
    rfl
  exact ⟨h.sl.skip ht, (fun h1 => by rw [g] at h1; cases h1), (fun h1 => by rw [g] at h1; cases h1), fun _ => hE⟩
end Go.Proofs.Ytjlflmbifeocbaa

namespace Go.Proofs.Ytjlflmbifeocbaa
open Go.RowKit

def tTab (n q r : Nat) : Nat → Option Value
  | 0 => some (.int .i64 n)
  | 1 => some (.int .i64 (q : Int))
  | 3 => some (.int .i64 n)
  | 4 => some (.int .i64 (r : Int))
  | 5 => some (.int .i64 (48 + (r : Int)))
  | 6 => some (.int .u8 (48 + (r : Int)))
  | 8 => some (.string (strOfNums [48 + (r : Int)]))
  | _ => none
def tEx (r : Nat) : Nat → Value → World → Prop
  | 2 => fun v _ => ∃ s : ByteArray, v = .string s ∧ s.size = 1
  | 7 => fun v w => ∃ b, v = .slice (some ⟨b, 0, none⟩) 1 1 ∧ w.cell? ⟨b, 0, none⟩ = some (.int .u8 (48 + (r : Int)))
  | 9 => fun v _ => ∃ s : ByteArray, v = .string s ∧ s.size ≤ 2
  | 10 => fun v _ => ∃ s : ByteArray, v = .string s ∧ s.size ≤ 2
  | _ => fun _ _ => True
theorem tSt (r : Nat) : ∀ i v w w', Below w.heap.size w w' → tEx r i v w → tEx r i v w' := fun i v w w' hb h => by
  match i, h with
  | 2, h => exact h
  | 7, ⟨b, h1, h2⟩ => exact ⟨b, h1, cell_later hb h2⟩
  | 9, h => exact h
  | 10, h => exact h
  | 0, h | 1, h | 3, h | 4, h | 5, h | 6, h | 8, h => exact h
  | (_ + 11), h => exact h
def tDs : List Nat := [10, 11, 12, 13, 14, 15, 16, 17, 18, 19, 2]
theorem tNd : tDs.Nodup := by decide
theorem conv_at (x : Int) (w : World) (b : Nat) (h : w.cell? ⟨b, 0, none⟩ = some (.int .u8 x)) : (convert 22 9 (.slice (some ⟨b, 0, none⟩) 1 1)).run Try.prog w = .ok (.string (strOfNums [x])) w := by
  refine run_convert_bytes_arg _ 22 5 Try.underlying22 Try.underlying5 _ 0 1 1 [x] rfl ?_ 9 Try.underlying9
  intro i hi
  obtain rfl : i = 0 := by omega
  simpa using h

set_option maxRecDepth 100000 in
set_option maxHeartbeats 4000000 in
theorem dec2_any (n : Nat) (w : World) (hn : n < 100) :
    Calls Try.prog 27 #[.int .i64 (n : Int)] w fun e w' => ∃ s : ByteArray, e = .returned (.string s) ∧ s.size ≤ 2 ∧ Below w.heap.size w w' := by
  by_cases h10 : n < 10
  · refine (dec_any n w h10).mono ?_
    rintro e w' ⟨s, h1, h2, h3⟩
    exact ⟨s, h1, by omega, h3⟩
  · have hn' : ¬ (n : Int) < 10 := by omega
    obtain ⟨q, hq⟩ : ∃ q : Nat, (n : Int) / 10 = q := ⟨n / 10, by omega⟩
    obtain ⟨r, hr⟩ : ∃ r : Nat, (n : Int) % 10 = r := ⟨n % 10, by omega⟩
    have hq9 : q < 10 := by omega
    have hr9 : r < 10 := by omega
    have hd := fun W => dec_any q W hq9
    have w1 : IntKind.i64.wrap (q : Int) = q := by rw [IntKind.wrap_i64] <;> omega
    have w2 : IntKind.i64.wrap (48 + (r : Int)) = 48 + r := by rw [IntKind.wrap_i64] <;> omega
    have w3 : IntKind.u8.wrap (48 + (r : Int)) = 48 + r := by first | (rw [IntKind.wrap_u8] <;> omega) | (simp [IntKind.wrap]; omega) | (unfold IntKind.wrap; simp; omega)
    have hr2 : (n : Int).tmod 10 = r := by rw [← hr]; exact Int.tmod_eq_emod_of_nonneg (by omega)
    have hq2 : (n : Int).tdiv 10 = q := by rw [← hq]; exact Int.tdiv_eq_ediv_of_nonneg (by omega)
    go_enter Try.func27, Try.ntmps27
    go_upto_region 3 with fail
    refine (wpIn_wide (n := 0)).1 ?_
    refine wpIn_region_inv0 (by kernel_rfl) (by kernel_rfl) (fun T0 => EV0 T0 tDs (tTab n q r) (tEx r) w) ?_ ?_ ?_
    · exact ⟨Sl2.start _, (Below.refl _ _).drew, fun i _ hL => by rw [getD_repl] at hL; cases hL⟩
    · intro L a2 w9 hinv hall
      obtain ⟨s, hs1, hs2⟩ : ∃ s : ByteArray, a2.eval (.tmp 2) = .string s ∧ s.size ≤ 2 := hinv.ex 10 (by decide) (hall 10 (by decide))
      have e2 : a2.tmps.getD 2 undef = .string s := hs1
      have HXX : Keep _ := ⟨hinv.sl.act⟩
      have hb9 := hinv.wd
      clear hinv hall
      rw [HXX.out]
      simp only [updL, tDs, List.contains_cons, List.contains_nil, Nat.reduceAdd, Nat.reduceBEq, Bool.or_false, cond_false, cond_true, Bool.or_true, e2]
      go_wp2
      go_ret
      exact ⟨s, rfl, hs2, hb9⟩
    · intro L a2 w9 i o hinv hcl hL ho hdep
      have hi11 : i < 11 := (Array.getElem?_eq_some_iff.1 ho).1
      unfold wpOpIn
      rw [ho]
      clear hcl
      match i, hi11, hL, ho, hdep with
      | 0, _, hL, ho, hdep =>
        injection ho with ho; subst ho
        dsimp only
        rw [if_pos (by rfl)]
        refine ⟨fun f _ => trivial, ?_⟩
        have e0 : a2.tmps[0]?.getD undef = .int .i64 (n : Int) := hinv.sl.old (by decide)
        go_simp
        exact hinv.step tNd (tSt r) (i := 0) (by decide) (by show 10 < 20; decide) (fun u hu => by cases hu; rfl) trivial (Below.refl _ _)
      | 1, _, hL, ho, hdep =>
        injection ho with ho; subst ho
        dsimp only
        rw [if_pos (by rfl)]
        refine ⟨fun f _ => trivial, ?_⟩
        have e10 : a2.tmps[10]?.getD undef = .int .i64 (n : Int) := hinv.sl.new (i := 0) (by decide) rfl (hdep ⟨0, .data⟩ (by simp) rfl)
        go_simp
        exact hinv.step tNd (tSt r) (i := 1) (by decide) (by show 11 < 20; decide) (fun u hu => by cases hu; rfl) trivial (Below.refl _ _)
      | 2, _, hL, ho, hdep =>
        injection ho with ho; subst ho
        dsimp only
        rw [if_pos (by rfl)]
        refine ⟨fun f _ => trivial, ?_⟩
        have e11 : a2.tmps[11]?.getD undef = .int .i64 (q : Int) := hinv.sl.new (i := 1) (by decide) rfl (hdep ⟨1, .data⟩ (by simp) rfl)
        go_simp
        refine ⟨rfl, CallsIn.mono (callsIn_wide.2 (hd _)) ?_⟩
        rintro e' w' ⟨s, rfl, hs, hb'⟩
        exact hinv.step tNd (tSt r) (i := 2) (by decide) (by show 12 < 20; decide) (fun u hu => by cases hu) ⟨s, rfl, hs⟩ hb'
      | 3, _, hL, ho, hdep =>
        injection ho with ho; subst ho
        dsimp only
        rw [if_pos (by rfl)]
        refine ⟨fun f _ => trivial, ?_⟩
        have e0 : a2.tmps[0]?.getD undef = .int .i64 (n : Int) := hinv.sl.old (by decide)
        go_simp
        exact hinv.step tNd (tSt r) (i := 3) (by decide) (by show 13 < 20; decide) (fun u hu => by cases hu; rfl) trivial (Below.refl _ _)
      | 4, _, hL, ho, hdep =>
        injection ho with ho; subst ho
        dsimp only
        rw [if_pos (by rfl)]
        refine ⟨fun f _ => trivial, ?_⟩
        have e13 : a2.tmps[13]?.getD undef = .int .i64 (n : Int) := hinv.sl.new (i := 3) (by decide) rfl (hdep ⟨3, .data⟩ (by simp) rfl)
        go_simp
        exact hinv.step tNd (tSt r) (i := 4) (by decide) (by show 14 < 20; decide) (fun u hu => by cases hu; rfl) trivial (Below.refl _ _)
      | 5, _, hL, ho, hdep =>
        injection ho with ho; subst ho
        dsimp only
        rw [if_pos (by rfl)]
        refine ⟨fun f _ => trivial, ?_⟩
        have e14 : a2.tmps[14]?.getD undef = .int .i64 (r : Int) := hinv.sl.new (i := 4) (by decide) rfl (hdep ⟨4, .data⟩ (by simp) rfl)
        go_simp
        exact hinv.step tNd (tSt r) (i := 5) (by decide) (by show 15 < 20; decide) (fun u hu => by cases hu; rfl) trivial (Below.refl _ _)
      | 6, _, hL, ho, hdep =>
        injection ho with ho; subst ho
        dsimp only
        rw [if_pos (by rfl)]
        refine ⟨fun f _ => trivial, ?_⟩
        have e15 : a2.tmps[15]?.getD undef = .int .i64 (48 + (r : Int)) := hinv.sl.new (i := 5) (by decide) rfl (hdep ⟨5, .data⟩ (by simp) rfl)
        go_simp
        exact hinv.step tNd (tSt r) (i := 6) (by decide) (by show 16 < 20; decide) (fun u hu => by cases hu; rfl) trivial (Below.refl _ _)
      | 7, _, hL, ho, hdep =>
        injection ho with ho; subst ho
        dsimp only
        rw [if_pos (by rfl)]
        refine ⟨fun f _ => trivial, ?_⟩
        have e16 : a2.tmps[16]?.getD undef = .int .u8 (48 + (r : Int)) := hinv.sl.new (i := 6) (by decide) rfl (hdep ⟨6, .data⟩ (by simp) rfl)
        go_simp
        exact hinv.step tNd (tSt r) (i := 7) (by decide) (by show 17 < 20; decide) (fun u hu => by cases hu) ⟨w9.heap.size, rfl, by simp⟩ ((Below.refl _ _).alloc (Nat.le_refl _) _)
      | 8, _, hL, ho, hdep =>
        injection ho with ho; subst ho
        dsimp only
        rw [if_pos (by rfl)]
        refine ⟨fun f _ => trivial, ?_⟩
        obtain ⟨b7, h71, h72⟩ := hinv.ex 7 (by decide) (hdep ⟨7, .data⟩ (by simp) rfl)
        have e17 : a2.tmps[17]?.getD undef = .slice (some ⟨b7, 0, none⟩) 1 1 := evalD2 h71
        have hcv := conv_at _ w9 b7 h72
        go_simp
        exact hinv.step tNd (tSt r) (i := 8) (by decide) (by show 18 < 20; decide) (fun u hu => by cases hu; rfl) trivial (Below.refl _ _)
      | 9, _, hL, ho, hdep =>
        injection ho with ho; subst ho
        dsimp only
        rw [if_pos (by rfl)]
        refine ⟨fun f _ => trivial, ?_⟩
        obtain ⟨s, h21, h22⟩ := hinv.ex 2 (by decide) (hdep ⟨2, .data⟩ (by simp) rfl)
        have e12 : a2.tmps[12]?.getD undef = .string s := evalD2 h21
        have e18 : a2.tmps[18]?.getD undef = .string (strOfNums [48 + (r : Int)]) := hinv.sl.new (i := 8) (by decide) rfl (hdep ⟨8, .data⟩ (by simp) rfl)
        have hc3 : ¬ 9223372036854775807 < s.size + (strOfNums [48 + (r : Int)]).size := by rw [h22, strOfNums_size]; simp
        go_simp
        exact hinv.step tNd (tSt r) (i := 9) (by decide) (by show 19 < 20; decide) (fun u hu => by cases hu) ⟨_, rfl, by rw [ByteArray.size_append, h22]; first | omega | (rw [strOfNums_size]; simp)⟩ (Below.refl _ _)
      | 10, _, hL, ho, hdep =>
        injection ho with ho; subst ho
        dsimp only
        rw [if_pos (by rfl)]
        refine ⟨fun f _ => trivial, ?_⟩
        obtain ⟨s, h91, h92⟩ := hinv.ex 9 (by decide) (hdep ⟨9, .data⟩ (by simp) rfl)
        have e19 : a2.tmps[19]?.getD undef = .string s := evalD2 h91
        go_simp
        exact hinv.step tNd (tSt r) (i := 10) (by decide) (by show 2 < 20; decide) (fun u hu => by cases hu) ⟨s, rfl, h92⟩ (Below.refl _ _)
end Go.Proofs.Ytjlflmbifeocbaa

namespace Go.Proofs.Ytjlflmbifeocbaa
open Go.RowKit

/-- A tree: where its entries lie, their room. -/
structure Tr where
  ad : Option Addr
  cp : Nat
  ts : List En
def Tr.v (t : Tr) : Value := .slice t.ad t.ts.length t.cp
/-- A tree in a box b; its entries lie in no block of F. -/
structure TX (F : List Nat) (b : Nat) (t : Tr) (W : World) : Prop where
  c : W.cell? ⟨b, 0, none⟩ = some (.slice t.ad t.ts.length t.cp)
  f : W.frozen? ⟨b, 0, none⟩ = false
  el : EL 0 W t.ad t.ts
  ne : t.ts = [] ∨ ∀ k ∈ F, blk t.ad ≠ some k
  rm : t.ts.length ≤ t.cp
section
variable {F : List Nat} {b k : Nat} {t u : Tr} {W W' : World}
theorem TX.lt (h : TX F b t W) : b < W.heap.size := World.block_lt_of_cell? W ⟨b, 0, none⟩ h.c
theorem TX.later (h : TX F b t W) (hb : Below W.heap.size W W') : TX F b t W' :=
  ⟨cell_later hb h.c, (hb.frozen (p := ⟨b, 0, none⟩) h.lt).trans h.f, h.el.below hb, h.ne, h.rm⟩
theorem TX.grown (h : TX F b t W) (hg : W.grownBy W' (some k)) (hk : k ∈ F) (hb : b ≠ k) : TX F b t W' := by
  have hh := hg.block b h.lt (fun e => hb (by cases e; rfl))
  refine ⟨(World.cell?_of_block hh).trans h.c, frozen_of hh h.f, ?_, h.ne, h.rm⟩
  rcases h.ne with h0 | h0
  · rw [h0]; exact EL.nil _ _ _
  · exact h.el.grown hg (fun j hj _ _ e => by cases e; exact h0 k hk hj)
theorem TX.put (h : TX F b t W) (hb : b ∈ F) (he : EL 0 W u.ad u.ts) (hn : u.ts = [] ∨ ∀ k ∈ F, blk u.ad ≠ some k) (hr : u.ts.length ≤ u.cp) : TX F b u (W.setCell ⟨b, 0, none⟩ (.slice u.ad u.ts.length u.cp)) := by
  refine ⟨World.cell?_setCell_same _ _ _ h.c, (World.frozen?_setCell _ _ _ _).trans h.f, ?_, hn, hr⟩
  rcases hn with h0 | h0
  · rw [h0]; exact EL.nil _ _ _
  · exact he.grown (grown_set0 W b 0 _) (fun j hj _ _ e => by cases e; exact h0 b hb hj)
end
theorem EL.off {B : Nat} {W : World} {ad : Option Addr} {us : List En} {F : List Nat} (h : EL B W ad us) (hF : ∀ k ∈ F, k < B) : us = [] ∨ ∀ k ∈ F, blk ad ≠ some k := by
  rcases h with h | ⟨g, e, h1, _⟩
  · exact .inl h
  · refine .inr fun k hk e' => ?_
    rw [e] at e'
    have e2 : g = k := by simpa [blk] using e'
    have := hF k hk
    omega

theorem EL.btw {B : Nat} {W : World} {ad : Option Addr} {us : List En} (h : EL B W ad us) : us = [] ∨ ∃ k, blk ad = some k ∧ B ≤ k ∧ k < W.heap.size := by
  rcases h with h | ⟨g, e, h1, h2, _⟩
  · exact .inl h
  · exact .inr ⟨g, by rw [e]; rfl, h1, h2⟩
theorem TX.wide {F F' : List Nat} {b : Nat} {t : Tr} {W : World} (h : TX F b t W) {lo hi : Nat} (hn : t.ts = [] ∨ ∃ k, blk t.ad = some k ∧ lo ≤ k ∧ k < hi) (hF : ∀ k ∈ F', k < lo ∨ hi ≤ k) : TX F' b t W := ⟨h.c, h.f, h.el, by
  rcases hn with h0 | ⟨j, h1, h2, h3⟩
  · exact .inl h0
  · refine .inr fun k hk e => ?_
    rw [h1] at e
    cases e
    have := hF j hk
    omega, h.rm⟩
theorem TX.new {g : Nat} {t : Tr} {B : Nat} {W : World} (h : EL B W t.ad t.ts) (hB : g < B) (hr : t.ts.length ≤ t.cp) : TX [g] W.heap.size t (W.alloc (.cells #[.slice t.ad t.ts.length t.cp] 25)) := by
  have hba := below_oneD W (.cells #[.slice t.ad t.ts.length t.cp] 25)
  exact ⟨by simp, by simp, (h.mono (Nat.zero_le _)).below hba, h.off (fun k hk => by rw [List.mem_singleton.1 hk]; exact hB), hr⟩

def mF (r2 r3 r4 g b6 b7 b8 : Nat) : List Nat := [r2, r3, r4, g, b6, b7, b8]
structure M3 (w : World) (g r2 r3 r4 b6 b7 b8 : Nat) (a : Option Addr) (cap : Nat) (zs : List Int) (p : Nat) (t6 t7 t8 : Tr) (W : World) : Prop where
  rd : Rd W g a cap zs p
  bw : Below w.heap.size w W
  x6 : TX (mF r2 r3 r4 g b6 b7 b8) b6 t6 W
  x7 : TX (mF r2 r3 r4 g b6 b7 b8) b7 t7 W
  x8 : TX (mF r2 r3 r4 g b6 b7 b8) b8 t8 W
  c2 : W.cell? ⟨r2, 0, none⟩ = some (.slice none 0 0)
  f2 : W.frozen? ⟨r2, 0, none⟩ = false
  c3 : W.cell? ⟨r3, 0, none⟩ = some (.slice none 0 0)
  f3 : W.frozen? ⟨r3, 0, none⟩ = false
  c4 : W.cell? ⟨r4, 0, none⟩ = some (.slice none 0 0)
  f4 : W.frozen? ⟨r4, 0, none⟩ = false
  ord : w.heap.size ≤ r2 ∧ r2 < r3 ∧ r3 < r4 ∧ r4 < g ∧ g < b6 ∧ b6 < b7 ∧ b7 < b8
section
variable {w : World} {g r2 r3 r4 b6 b7 b8 : Nat} {a : Option Addr} {cap : Nat} {zs : List Int} {p p' : Nat} {t6 t7 t8 u : Tr} {W W' : World}
theorem M3.step (h : M3 w g r2 r3 r4 b6 b7 b8 a cap zs p t6 t7 t8 W) (hg : W.grownBy W' (some g)) (hR : Rd W' g a cap zs p') : M3 w g r2 r3 r4 b6 b7 b8 a cap zs p' t6 t7 t8 W' := by
  have o := h.ord
  have k2 := hg.block r2 (World.block_lt_of_cell? W ⟨r2, 0, none⟩ h.c2) (by simp; omega)
  have k3 := hg.block r3 (World.block_lt_of_cell? W ⟨r3, 0, none⟩ h.c3) (by simp; omega)
  have k4 := hg.block r4 (World.block_lt_of_cell? W ⟨r4, 0, none⟩ h.c4) (by simp; omega)
  exact ⟨hR, h.bw.grown hg h.bw.size (fun j e => by cases e; omega), h.x6.grown hg (by simp [mF]) (by omega), h.x7.grown hg (by simp [mF]) (by omega), h.x8.grown hg (by simp [mF]) (by omega), (World.cell?_of_block k2).trans h.c2, frozen_of k2 h.f2, (World.cell?_of_block k3).trans h.c3, frozen_of k3 h.f3, (World.cell?_of_block k4).trans h.c4, frozen_of k4 h.f4, o⟩
theorem M3.later (h : M3 w g r2 r3 r4 b6 b7 b8 a cap zs p t6 t7 t8 W) (hb : Below W.heap.size W W') : M3 w g r2 r3 r4 b6 b7 b8 a cap zs p t6 t7 t8 W' := h.step (gr_below hb) (h.rd.below hb)
theorem M3.rest (h : M3 w g r2 r3 r4 b6 b7 b8 a cap zs p t6 t7 t8 W) {k : Nat} (v : Value) (hk : k = b6 ∨ k = b7 ∨ k = b8) : Rd (W.setCell ⟨k, 0, none⟩ v) g a cap zs p ∧ Below w.heap.size w (W.setCell ⟨k, 0, none⟩ v) ∧ ((W.setCell ⟨k, 0, none⟩ v).cell? ⟨r2, 0, none⟩ = some (.slice none 0 0) ∧ (W.setCell ⟨k, 0, none⟩ v).frozen? ⟨r2, 0, none⟩ = false) ∧ ((W.setCell ⟨k, 0, none⟩ v).cell? ⟨r3, 0, none⟩ = some (.slice none 0 0) ∧ (W.setCell ⟨k, 0, none⟩ v).frozen? ⟨r3, 0, none⟩ = false) ∧ (W.setCell ⟨k, 0, none⟩ v).cell? ⟨r4, 0, none⟩ = some (.slice none 0 0) ∧ (W.setCell ⟨k, 0, none⟩ v).frozen? ⟨r4, 0, none⟩ = false := by
  have o := h.ord
  have hg : W.grownBy (W.setCell ⟨k, 0, none⟩ v) (some k) := grown_set0 W k 0 v
  have k2 := hg.block r2 (World.block_lt_of_cell? W ⟨r2, 0, none⟩ h.c2) (by simp; omega)
  have k3 := hg.block r3 (World.block_lt_of_cell? W ⟨r3, 0, none⟩ h.c3) (by simp; omega)
  have k4 := hg.block r4 (World.block_lt_of_cell? W ⟨r4, 0, none⟩ h.c4) (by simp; omega)
  exact ⟨h.rd.kept hg (fun j e => by cases e; omega), h.bw.setCell (p := ⟨k, 0, none⟩) (by show _ ≤ k; omega) _, ⟨(World.cell?_of_block k2).trans h.c2, frozen_of k2 h.f2⟩, ⟨(World.cell?_of_block k3).trans h.c3, frozen_of k3 h.f3⟩, (World.cell?_of_block k4).trans h.c4, frozen_of k4 h.f4⟩
theorem M3.all (h : M3 w g r2 r3 r4 b6 b7 b8 a cap zs p t6 t7 t8 W) : ∀ k ∈ mF r2 r3 r4 g b6 b7 b8, k < b8 + 1 := fun k hk => by
  have o := h.ord
  simp only [mF, List.mem_cons, List.not_mem_nil, or_false] at hk
  omega
theorem M3.put6 (h : M3 w g r2 r3 r4 b6 b7 b8 a cap zs p t6 t7 t8 W) (he : EL (b8 + 1) W u.ad u.ts) (hr : u.ts.length ≤ u.cp) : M3 w g r2 r3 r4 b6 b7 b8 a cap zs p u t7 t8 (W.setCell ⟨b6, 0, none⟩ (.slice u.ad u.ts.length u.cp)) := by
  obtain ⟨h1, h2, ⟨h3, h4⟩, ⟨h5, h6⟩, h7, h8⟩ := h.rest (.slice u.ad u.ts.length u.cp) (.inl rfl)
  have o := h.ord
  exact ⟨h1, h2, h.x6.put (by simp [mF]) (he.mono (Nat.zero_le _)) (he.off h.all) hr, h.x7.grown (grown_set0 _ _ _ _) (by simp [mF]) (by omega), h.x8.grown (grown_set0 _ _ _ _) (by simp [mF]) (by omega), h3, h4, h5, h6, h7, h8, o⟩
theorem M3.put7 (h : M3 w g r2 r3 r4 b6 b7 b8 a cap zs p t6 t7 t8 W) (he : EL (b8 + 1) W u.ad u.ts) (hr : u.ts.length ≤ u.cp) : M3 w g r2 r3 r4 b6 b7 b8 a cap zs p t6 u t8 (W.setCell ⟨b7, 0, none⟩ (.slice u.ad u.ts.length u.cp)) := by
  obtain ⟨h1, h2, ⟨h3, h4⟩, ⟨h5, h6⟩, h7, h8⟩ := h.rest (.slice u.ad u.ts.length u.cp) (.inr (.inl rfl))
  have o := h.ord
  exact ⟨h1, h2, h.x6.grown (grown_set0 _ _ _ _) (by simp [mF]) (by omega), h.x7.put (by simp [mF]) (he.mono (Nat.zero_le _)) (he.off h.all) hr, h.x8.grown (grown_set0 _ _ _ _) (by simp [mF]) (by omega), h3, h4, h5, h6, h7, h8, o⟩
theorem M3.put8 (h : M3 w g r2 r3 r4 b6 b7 b8 a cap zs p t6 t7 t8 W) (he : EL (b8 + 1) W u.ad u.ts) (hr : u.ts.length ≤ u.cp) : M3 w g r2 r3 r4 b6 b7 b8 a cap zs p t6 t7 u (W.setCell ⟨b8, 0, none⟩ (.slice u.ad u.ts.length u.cp)) := by
  obtain ⟨h1, h2, ⟨h3, h4⟩, ⟨h5, h6⟩, h7, h8⟩ := h.rest (.slice u.ad u.ts.length u.cp) (.inr (.inr rfl))
  have o := h.ord
  exact ⟨h1, h2, h.x6.grown (grown_set0 _ _ _ _) (by simp [mF]) (by omega), h.x7.grown (grown_set0 _ _ _ _) (by simp [mF]) (by omega), h.x8.put (by simp [mF]) (he.mono (Nat.zero_le _)) (he.off h.all) hr, h3, h4, h5, h6, h7, h8, o⟩
end
/-- What is handed back, or nothing yet. -/
def rcV (b : Bool) (t : Tr) : Value := bif b then .slice t.ad t.ts.length t.cp else .slice none 0 0
def zTab (t6 t7 t8 : Tr) : Nat → Option Value
  | 0 => some (.agg #[.slice t6.ad t6.ts.length t6.cp])
  | 1 => some (.agg #[.slice t7.ad t7.ts.length t7.cp])
  | 2 => some (.agg #[.slice t8.ad t8.ts.length t8.cp])
  | _ => none
def zDs : List Nat := [87, 88, 89, 1000, 1001, 1002]
theorem zNd : zDs.Nodup := by decide
structure RV3 (w : World) (g r2 r3 r4 b6 b7 b8 : Nat) (t6 t7 t8 : Tr) (T0 : Array Value) (L : Array Bool) (a : Act) (W : World) : Prop where
  sl : Sl2 T0 zDs (zTab t6 t7 t8) L a
  bw : Below w.heap.size w W
  x6 : TX (mF r2 r3 r4 g b6 b7 b8) b6 t6 W
  x7 : TX (mF r2 r3 r4 g b6 b7 b8) b7 t7 W
  x8 : TX (mF r2 r3 r4 g b6 b7 b8) b8 t8 W
  c2 : W.cell? ⟨r2, 0, none⟩ = some (rcV (L.getD 3 false) t6)
  f2 : W.frozen? ⟨r2, 0, none⟩ = false
  c3 : W.cell? ⟨r3, 0, none⟩ = some (rcV (L.getD 4 false) t7)
  f3 : W.frozen? ⟨r3, 0, none⟩ = false
  c4 : W.cell? ⟨r4, 0, none⟩ = some (rcV (L.getD 5 false) t8)
  f4 : W.frozen? ⟨r4, 0, none⟩ = false
section
variable {w : World} {g r2 r3 r4 b6 b7 b8 : Nat} {t6 t7 t8 : Tr} {T0 : Array Value} {L : Array Bool} {a : Act} {W : World}
theorem RV3.step (h : RV3 w g r2 r3 r4 b6 b7 b8 t6 t7 t8 T0 L a W) {i : Nat} {v : Value} (hi : i < 3) (hd : 87 + i < T0.size) (ht : zTab t6 t7 t8 i = some v) : RV3 w g r2 r3 r4 b6 b7 b8 t6 t7 t8 T0 (L.setIfInBounds i true) (a.put (some (87 + i)) v) W := by
  have hlen : i < zDs.length := by show i < 6; omega
  have hds : zDs[i] = 87 + i := by
    match i, hi with
    | 0, _ | 1, _ | 2, _ => rfl
  have hsl := h.sl.put zNd hlen (by rw [hds]; exact hd) (v := v) (fun u' hu => by rw [ht] at hu; cases hu; rfl)
  rw [hds] at hsl
  refine ⟨hsl, h.bw, h.x6, h.x7, h.x8, ?_, h.f2, ?_, h.f3, ?_, h.f4⟩
  · rw [getD_set_ne false (by omega)]; exact h.c2
  · rw [getD_set_ne false (by omega)]; exact h.c3
  · rw [getD_set_ne false (by omega)]; exact h.c4
theorem RV3.st2 (h : RV3 w g r2 r3 r4 b6 b7 b8 t6 t7 t8 T0 L a W) (o : r2 < r3 ∧ r3 < r4 ∧ r4 < g ∧ g < b6 ∧ b6 < b7 ∧ b7 < b8 ∧ w.heap.size ≤ r2) (hL : L.getD 3 true = false) : RV3 w g r2 r3 r4 b6 b7 b8 t6 t7 t8 T0 (L.setIfInBounds 3 true) a (W.setCell ⟨r2, 0, none⟩ (.slice t6.ad t6.ts.length t6.cp)) := by
  have hg : W.grownBy (W.setCell ⟨r2, 0, none⟩ (.slice t6.ad t6.ts.length t6.cp)) (some r2) := grown_set0 W r2 0 _
  have gi : (L.setIfInBounds 3 true).getD 3 false = true := by
    have h1 := getD_false hL
    have h2 : 3 < L.size := by simpa using (List.getElem?_eq_some_iff.1 h1).1
    rw [Array.getD_eq_getD_getElem?, Array.getElem?_setIfInBounds_self_of_lt h2]
    rfl
  refine ⟨h.sl.skip rfl, h.bw.setCell (p := ⟨r2, 0, none⟩) (by show _ ≤ r2; omega) _, h.x6.grown hg (by simp [mF]) (by omega), h.x7.grown hg (by simp [mF]) (by omega), h.x8.grown hg (by simp [mF]) (by omega), ?_, (World.frozen?_setCell _ _ _ _).trans h.f2, ?_, (World.frozen?_setCell _ _ _ _).trans h.f3, ?_, (World.frozen?_setCell _ _ _ _).trans h.f4⟩
  · rw [gi]
    exact World.cell?_setCell_same _ _ _ h.c2
  · rw [getD_set_ne false (by omega)]
    exact (World.cell?_setCell_other _ _ _ _ (by intro e; have e2 := congrArg Addr.block e; have e3 : r2 = r3 := e2; omega)).trans h.c3
  · rw [getD_set_ne false (by omega)]
    exact (World.cell?_setCell_other _ _ _ _ (by intro e; have e2 := congrArg Addr.block e; have e3 : r2 = r4 := e2; omega)).trans h.c4
theorem RV3.st3 (h : RV3 w g r2 r3 r4 b6 b7 b8 t6 t7 t8 T0 L a W) (o : r2 < r3 ∧ r3 < r4 ∧ r4 < g ∧ g < b6 ∧ b6 < b7 ∧ b7 < b8 ∧ w.heap.size ≤ r2) (hL : L.getD 4 true = false) : RV3 w g r2 r3 r4 b6 b7 b8 t6 t7 t8 T0 (L.setIfInBounds 4 true) a (W.setCell ⟨r3, 0, none⟩ (.slice t7.ad t7.ts.length t7.cp)) := by
  have hg : W.grownBy (W.setCell ⟨r3, 0, none⟩ (.slice t7.ad t7.ts.length t7.cp)) (some r3) := grown_set0 W r3 0 _
  have gi : (L.setIfInBounds 4 true).getD 4 false = true := by
    have h1 := getD_false hL
    have h2 : 4 < L.size := by simpa using (List.getElem?_eq_some_iff.1 h1).1
    rw [Array.getD_eq_getD_getElem?, Array.getElem?_setIfInBounds_self_of_lt h2]
    rfl
  refine ⟨h.sl.skip rfl, h.bw.setCell (p := ⟨r3, 0, none⟩) (by show _ ≤ r3; omega) _, h.x6.grown hg (by simp [mF]) (by omega), h.x7.grown hg (by simp [mF]) (by omega), h.x8.grown hg (by simp [mF]) (by omega), ?_, (World.frozen?_setCell _ _ _ _).trans h.f2, ?_, (World.frozen?_setCell _ _ _ _).trans h.f3, ?_, (World.frozen?_setCell _ _ _ _).trans h.f4⟩
  · rw [getD_set_ne false (by omega)]
    exact (World.cell?_setCell_other _ _ _ _ (by intro e; have e2 := congrArg Addr.block e; have e3 : r3 = r2 := e2; omega)).trans h.c2
  · rw [gi]
    exact World.cell?_setCell_same _ _ _ h.c3
  · rw [getD_set_ne false (by omega)]
    exact (World.cell?_setCell_other _ _ _ _ (by intro e; have e2 := congrArg Addr.block e; have e3 : r3 = r4 := e2; omega)).trans h.c4
theorem RV3.st4 (h : RV3 w g r2 r3 r4 b6 b7 b8 t6 t7 t8 T0 L a W) (o : r2 < r3 ∧ r3 < r4 ∧ r4 < g ∧ g < b6 ∧ b6 < b7 ∧ b7 < b8 ∧ w.heap.size ≤ r2) (hL : L.getD 5 true = false) : RV3 w g r2 r3 r4 b6 b7 b8 t6 t7 t8 T0 (L.setIfInBounds 5 true) a (W.setCell ⟨r4, 0, none⟩ (.slice t8.ad t8.ts.length t8.cp)) := by
  have hg : W.grownBy (W.setCell ⟨r4, 0, none⟩ (.slice t8.ad t8.ts.length t8.cp)) (some r4) := grown_set0 W r4 0 _
  have gi : (L.setIfInBounds 5 true).getD 5 false = true := by
    have h1 := getD_false hL
    have h2 : 5 < L.size := by simpa using (List.getElem?_eq_some_iff.1 h1).1
    rw [Array.getD_eq_getD_getElem?, Array.getElem?_setIfInBounds_self_of_lt h2]
    rfl
  refine ⟨h.sl.skip rfl, h.bw.setCell (p := ⟨r4, 0, none⟩) (by show _ ≤ r4; omega) _, h.x6.grown hg (by simp [mF]) (by omega), h.x7.grown hg (by simp [mF]) (by omega), h.x8.grown hg (by simp [mF]) (by omega), ?_, (World.frozen?_setCell _ _ _ _).trans h.f2, ?_, (World.frozen?_setCell _ _ _ _).trans h.f3, ?_, (World.frozen?_setCell _ _ _ _).trans h.f4⟩
  · rw [getD_set_ne false (by omega)]
    exact (World.cell?_setCell_other _ _ _ _ (by intro e; have e2 := congrArg Addr.block e; have e3 : r4 = r2 := e2; omega)).trans h.c2
  · rw [getD_set_ne false (by omega)]
    exact (World.cell?_setCell_other _ _ _ _ (by intro e; have e2 := congrArg Addr.block e; have e3 : r4 = r3 := e2; omega)).trans h.c3
  · rw [gi]
    exact World.cell?_setCell_same _ _ _ h.c4
end
/-- What is known of a drawn tree. -/
def TQ (t : Tr) : Prop := t.ts.length ≤ 300 ∧ Tiny 1000 20000 t.ts
def DrawnM (w : World) (e : Ending) (w' : World) : Prop :=
  ∃ t6 t7 t8 : Tr, e = .returned (.tuple #[.agg #[.slice t6.ad t6.ts.length t6.cp], .agg #[.slice t7.ad t7.ts.length t7.cp], .agg #[.slice t8.ad t8.ts.length t8.cp]]) ∧ ES w' t6.ad t6.ts ∧ ES w' t7.ad t7.ts ∧ ES w' t8.ad t8.ts ∧ TQ t6 ∧ TQ t7 ∧ TQ t8 ∧ t6.ts.length ≤ t6.cp ∧ t7.ts.length ≤ t7.cp ∧ t8.ts.length ≤ t8.cp ∧ Below w.heap.size w w'
theorem Tiny.layRel {P T : Nat} {ts us : List En} {p : ByteArray} {f : Fl} (h : Tiny P T ts) (he : p.size ≤ P ∧ f.text.size ≤ T) (hs : LayRel ts p f us) : Tiny P T us := fun x hx => by
  rcases (hs.mem x).1 hx with ⟨_, rfl⟩ | ⟨h1, _⟩
  · exact he
  · exact h x h1
end Go.Proofs.Ytjlflmbifeocbaa

namespace Go.Proofs.Ytjlflmbifeocbaa
open Go.RowKit

structure EVF (T0 : Array Value) (ds : List Nat) (tab : Nat → Option Value) (ex : Nat → Value → World → Prop) (I : Array Bool → World → Prop) (L : Array Bool) (a : Act) (w : World) : Prop where
  sl : Sl2 T0 ds tab L a
  wd : I L w
  ex : ∀ i (h : i < ds.length), L.getD i false = true → ex i (a.eval (.tmp ds[i])) w
theorem EVF.step {T0 : Array Value} {ds : List Nat} {tab : Nat → Option Value} {ex : Nat → Value → World → Prop} {I : Array Bool → World → Prop} {L : Array Bool} {a : Act} {w w' : World} (h : EVF T0 ds tab ex I L a w) (nd : ds.Nodup) (hst : ∀ i v, ex i v w → ex i v w') {i : Nat} {v : Value} (hi : i < ds.length) (hd : ds[i] < T0.size) (ht : ∀ u, tab i = some u → u = v) (he : ex i v w') (hI : I (L.setIfInBounds i true) w') : EVF T0 ds tab ex I (L.setIfInBounds i true) (a.put (some ds[i]) v) w' := by
  refine ⟨h.sl.put nd hi hd ht, hI, fun j hj hL => ?_⟩
  by_cases e : j = i
  · subst e
    rw [eval_put_same (by rw [h.sl.sz]; exact hd)]
    exact he
  · rw [Act.eval_put (fun d hd' => by cases hd'; intro e'; injection e' with e'; exact nodup_ne nd hi hj e e')]
    exact hst j _ (h.ex j hj (getD_of_set hL e))
/-- An operation that gives nothing (a store). -/
theorem EVF.skip {T0 : Array Value} {ds : List Nat} {tab : Nat → Option Value} {ex : Nat → Value → World → Prop} {I : Array Bool → World → Prop} {L : Array Bool} {a : Act} {w w' : World} (h : EVF T0 ds tab ex I L a w) (hst : ∀ i v, ex i v w → ex i v w') {i : Nat} (ht : tab i = none) (he : ∀ v, ex i v w') (hI : I (L.setIfInBounds i true) w') : EVF T0 ds tab ex I (L.setIfInBounds i true) a w' := by
  refine ⟨h.sl.skip ht, hI, fun j hj hL => ?_⟩
  by_cases e : j = i
  · subst e; exact he _
  · exact hst j _ (h.ex j hj (getD_of_set hL e))
end Go.Proofs.Ytjlflmbifeocbaa

namespace Go.Proofs.Ytjlflmbifeocbaa
open Go.RowKit

structure Q6 (w : World) (g r2 r3 b4 : Nat) (a : Option Addr) (cap : Nat) (zs : List Int) (p : Nat) (t : Tr) (u2 u3 : Value) (W : World) : Prop where
  rd : Rd W g a cap zs p
  gr : w.grownBy W (some g)
  x4 : TX [g, r2, r3, b4] b4 t W
  lo : EL w.heap.size W t.ad t.ts
  c2 : W.cell? ⟨r2, 0, none⟩ = some u2
  f2 : W.frozen? ⟨r2, 0, none⟩ = false
  c3 : W.cell? ⟨r3, 0, none⟩ = some u3
  f3 : W.frozen? ⟨r3, 0, none⟩ = false
  ord : g < w.heap.size ∧ w.heap.size ≤ r2 ∧ r2 < r3 ∧ r3 < b4
section
variable {w : World} {g r2 r3 b4 : Nat} {a : Option Addr} {cap : Nat} {zs : List Int} {p p' : Nat} {t : Tr} {u2 u3 : Value} {W W' : World}
theorem TX.lo_on {F : List Nat} {b k : Nat} {t : Tr} {B : Nat} (h : TX F b t W) (hl : EL B W t.ad t.ts) (hg : W.grownBy W' (some k)) (hk : k ∈ F) : EL B W' t.ad t.ts := by
  rcases h.ne with h0 | h0
  · rw [h0]; exact EL.nil _ _ _
  · exact hl.grown hg (fun j hj _ _ e => by cases e; exact h0 k hk hj)
theorem Q6.step (h : Q6 w g r2 r3 b4 a cap zs p t u2 u3 W) (hg : W.grownBy W' (some g)) (hR : Rd W' g a cap zs p') : Q6 w g r2 r3 b4 a cap zs p' t u2 u3 W' := by
  have o := h.ord
  have k2 := hg.block r2 (World.block_lt_of_cell? W ⟨r2, 0, none⟩ h.c2) (by simp; omega)
  have k3 := hg.block r3 (World.block_lt_of_cell? W ⟨r3, 0, none⟩ h.c3) (by simp; omega)
  exact ⟨hR, gr_trans h.gr hg, h.x4.grown hg (by simp) (by omega), h.x4.lo_on h.lo hg (by simp), (World.cell?_of_block k2).trans h.c2, frozen_of k2 h.f2, (World.cell?_of_block k3).trans h.c3, frozen_of k3 h.f3, o⟩
theorem Q6.later (h : Q6 w g r2 r3 b4 a cap zs p t u2 u3 W) (hb : Below W.heap.size W W') : Q6 w g r2 r3 b4 a cap zs p t u2 u3 W' := h.step (gr_below hb) (h.rd.below hb)
theorem Q6.set2 (h : Q6 w g r2 r3 b4 a cap zs p t u2 u3 W) (v : Value) : Q6 w g r2 r3 b4 a cap zs p t v u3 (W.setCell ⟨r2, 0, none⟩ v) := by
  have o := h.ord
  have hg : W.grownBy (W.setCell ⟨r2, 0, none⟩ v) (some r2) := grown_set0 W r2 0 v
  have k3 := hg.block r3 (World.block_lt_of_cell? W ⟨r3, 0, none⟩ h.c3) (by simp; omega)
  exact ⟨h.rd.kept hg (fun j e => by cases e; omega), gr_own h.gr hg (fun j e => by cases e; omega), h.x4.grown hg (by simp) (by omega), h.x4.lo_on h.lo hg (by simp), World.cell?_setCell_same _ _ _ h.c2, (World.frozen?_setCell _ _ _ _).trans h.f2, (World.cell?_of_block k3).trans h.c3, frozen_of k3 h.f3, o⟩
theorem Q6.set3 (h : Q6 w g r2 r3 b4 a cap zs p t u2 u3 W) (v : Value) : Q6 w g r2 r3 b4 a cap zs p t u2 v (W.setCell ⟨r3, 0, none⟩ v) := by
  have o := h.ord
  have hg : W.grownBy (W.setCell ⟨r3, 0, none⟩ v) (some r3) := grown_set0 W r3 0 v
  have k2 := hg.block r2 (World.block_lt_of_cell? W ⟨r2, 0, none⟩ h.c2) (by simp; omega)
  exact ⟨h.rd.kept hg (fun j e => by cases e; omega), gr_own h.gr hg (fun j e => by cases e; omega), h.x4.grown hg (by simp) (by omega), h.x4.lo_on h.lo hg (by simp), (World.cell?_of_block k2).trans h.c2, frozen_of k2 h.f2, World.cell?_setCell_same _ _ _ h.c3, (World.frozen?_setCell _ _ _ _).trans h.f3, o⟩
end
end Go.Proofs.Ytjlflmbifeocbaa

namespace Go.Proofs.Ytjlflmbifeocbaa
open Go.RowKit

theorem ss_of_rowM {w : World} {base : Nat} {ad : Option Addr} {cp : Nat} {ss : List ByteArray} (h : w.ownsRow base 9 1 (.slice ad ss.length cp) ss.length (ss.map .string)) : SS w ad ss := by
  by_cases h0 : ss = []
  · exact .inl h0
  · right
    obtain ⟨g, c, hv, _⟩ := h.form (List.length_pos_iff.2 h0)
    cases hv
    exact ⟨g, 0, rfl, fun i hi => by rw [Nat.zero_add, h.cellAt i (by simpa using hi), List.getElem?_map, List.getElem?_eq_getElem hi]; rfl⟩
def NamesPost (us : List ByteArray) (w : World) (e : Ending) (w' : World) : Prop :=
  ∃ ad cp, e = .returned (.slice ad us.length cp) ∧ w'.ownsRow w.heap.size 9 1 (.slice ad us.length cp) us.length (us.map .string) ∧ Below w.heap.size w w'
/-- A row of names in the making. -/
structure NmR (w : World) (v : Value) (us : List ByteArray) (W : World) : Prop where
  row : W.ownsRow w.heap.size 9 1 v us.length (us.map .string)
  bw : Below w.heap.size w W
theorem NmR.app {w : World} {v v' : Value} {us : List ByteArray} {W W' : World} {x : ByteArray} {o : Obj} (h : NmR w v us W) (hg : (W.alloc o).grownBy W' v.ownBlock) (ho : W'.ownsRow w.heap.size 9 1 v' (us.length + 1) (us.map .string ++ [.string x])) : NmR w v' (us ++ [x]) W' :=
  ⟨by rw [List.length_append, List.map_append]; exact ho, (h.bw.alloc h.bw.size _).grown hg (by have := h.bw.size; simp; omega) (owns_base h.row)⟩

set_option maxRecDepth 100000 in
set_option maxHeartbeats 4000000 in
theorem l6Name_any (a : Option Addr) (cap : Nat) (ls : List ByteArray) (s : ByteArray) (w : World) (hss : SS w a ls) (hn : ls.length ≤ 1048576) :
    Calls Try.prog 47 #[.slice a ls.length cap, .string s] w (NamesPost (nameL ls s) w) := by
  obtain ⟨i0, hi, hz0, hz1, hz2⟩ := info_parts Try.infoStr
  have hnil : NmR w (.slice (some ⟨w.heap.size, 0, none⟩) 0 0) [] (w.alloc (.cells #[] 9)) := ⟨⟨by simp, .inr ⟨w.heap.size, 0, #[], rfl, Nat.le_refl _, heap_alloc_new w _, Nat.le_refl _, by unfold maxLen; omega, rfl, by simp⟩⟩, (Below.refl _ _).alloc (Nat.le_refl _) _⟩
  go_enter Try.func47, Try.ntmps47
  go_wp2
  go_loopw [5, 6, 7] (fun v dn i wr => ∃ k : Nat, i = .int .i64 k ∧ k ≤ ls.length ∧ dn = .bool (foldN s (ls.take k)).2 ∧ NmR w v (foldN s (ls.take k)).1 wr) (fun _ _ i _ => ls.length - (intOf i).toNat)
  case atStart => exact ⟨0, rfl, Nat.zero_le _, rfl, hnil⟩
  case round =>
    obtain ⟨k, rfl, hk, rfl, hR⟩ := hrel
    have hfl := (foldN_len s ls k hk).2
    have hbs := hR.bw.size
    by_cases hlt : k < ls.length
    · have hlt' : (k : Int) < ls.length := by omega
      obtain ⟨b, off, rfl, hcl⟩ := (hss.below hR.bw).at hlt
      have hck := hcl k hlt
      have HN : Keep (foldN s (ls.take (k + 1)) = stepN s (foldN s (ls.take k)) ls[k]) := ⟨foldN_take hlt⟩
      have hbm : ∀ W, Below w.heap.size w W → W.cell? ⟨b, off + k, none⟩ = some (.string ls[k]) := fun W hW => by
        obtain ⟨b2, off2, e2, h2⟩ := (hss.below hW).at hlt
        cases e2
        exact h2 k hlt
      clear hcl
      generalize hx : ls[k] = x at *
      clear hx
      generalize foldN s (ls.take k) = r at *
      obtain ⟨us, dn⟩ := r
      dsimp only at hR hfl HN ⊢
      cases dn with
      | true =>
        by_cases hxs : x = s
        · have hne : (x.toList != s.toList) = false := by rw [hxs]; simp
          have heq : (x.toList == s.toList) = true := by rw [hxs]; simp
          have HF : Keep (foldN s (ls.take (k + 1)) = (us, true)) := ⟨by rw [HN.out]; unfold stepN; rw [if_pos rfl, if_neg (by rw [hne]; simp)]⟩
          clear hxs
          go_wp2
          go_roundw
          case rel => exact ⟨k + 1, by congr 1, by omega, by rw [HF.out], by rw [HF.out]; exact hR⟩
          case measure => simp only [intOf]; omega
        · have hne : (x.toList != s.toList) = true := ne_toList.2 hxs
          have heq : (x.toList == s.toList) = false := by simpa using hne
          have HF : Keep (foldN s (ls.take (k + 1)) = (us ++ [x], true)) := ⟨by rw [HN.out]; unfold stepN; rw [if_pos rfl, if_pos hne]⟩
          clear hxs
          go_wp2_with (first | (at_builtin; refine wpList_append_own _ rfl _ _ 69 rfl w.heap.size 9 i0 _ 1 16 Try.underlying69 hi hz0 hz1 hz2 rfl (by decide) _ _ _ rfl (hR.row.alloc _) ⟨wr.heap.size, 0, none⟩ 1 1 [.string x] rfl rfl (cell_one_new _ _ _) (by simp [Value.oneCell']) (by unfold maxLen; omega) (by omega) (by have := hR.bw.size; simp; omega) ?_; intro v2 w2 ho2 hg2 _; have hR2 := hR.app (x := x) hg2 ho2))
          go_roundw
          case rel => exact ⟨k + 1, by congr 1, by omega, by rw [HF.out], by rw [HF.out]; exact hR2⟩
          case measure => simp only [intOf]; omega
      | false =>
        by_cases hl : Op.bytesLess x.toList s.toList = true
        · have hxs : x ≠ s := less_ne hl
          have hne : (x.toList != s.toList) = true := ne_toList.2 hxs
          have heq : (x.toList == s.toList) = false := by simpa using hne
          have hgl : Op.bytesLess s.toList x.toList = false := by
            cases hq : Op.bytesLess s.toList x.toList with
            | false => rfl
            | true => have := less_trans hl hq; rw [less_irrefl] at this; cases this
          have HF : Keep (foldN s (ls.take (k + 1)) = (us ++ [x], false)) := ⟨by rw [HN.out]; unfold stepN; rw [if_neg (by simp), if_pos hl]⟩
          clear hxs
          go_wp2_with (first | (at_builtin; refine wpList_append_own _ rfl _ _ 69 rfl w.heap.size 9 i0 _ 1 16 Try.underlying69 hi hz0 hz1 hz2 rfl (by decide) _ _ _ rfl (hR.row.alloc _) ⟨wr.heap.size, 0, none⟩ 1 1 [.string x] rfl rfl (cell_one_new _ _ _) (by simp [Value.oneCell']) (by unfold maxLen; omega) (by omega) (by have := hR.bw.size; simp; omega) ?_; intro v2 w2 ho2 hg2 _; have hR2 := hR.app (x := x) hg2 ho2))
          go_roundw
          case rel => exact ⟨k + 1, by congr 1, by omega, by rw [HF.out], by rw [HF.out]; exact hR2⟩
          case measure => simp only [intOf]; omega
        · replace hl : Op.bytesLess x.toList s.toList = false := by simpa using hl
          by_cases hxs : x = s
          · have hne : (x.toList != s.toList) = false := by rw [hxs]; simp
            have heq : (x.toList == s.toList) = true := by rw [hxs]; simp
            have HF : Keep (foldN s (ls.take (k + 1)) = (us ++ [s], true)) := ⟨by rw [HN.out]; unfold stepN; rw [if_neg (by simp), if_neg (by rw [hl]; simp), if_neg (by rw [hne]; simp)]⟩
            clear hxs
            go_wp2_with (first | (at_builtin; refine wpList_append_own _ rfl _ _ 69 rfl w.heap.size 9 i0 _ 1 16 Try.underlying69 hi hz0 hz1 hz2 rfl (by decide) _ _ _ rfl (hR.row.alloc _) ⟨wr.heap.size, 0, none⟩ 1 1 [.string s] rfl rfl (cell_one_new _ _ _) (by simp [Value.oneCell']) (by unfold maxLen; omega) (by omega) (by have := hR.bw.size; simp; omega) ?_; intro v2 w2 ho2 hg2 _; have hR2 := hR.app (x := s) hg2 ho2; have ck2 := hbm w2 hR2.bw; have hl2 : (us ++ [s]).length ≤ 1048579 := (by simp; omega)))
            go_roundw
            case rel => exact ⟨k + 1, by congr 1, by omega, by rw [HF.out], by rw [HF.out]; exact hR2⟩
            case measure => simp only [intOf]; omega
          · have hne : (x.toList != s.toList) = true := ne_toList.2 hxs
            have heq : (x.toList == s.toList) = false := by simpa using hne
            have hgl := less_of hl hxs
            have HF : Keep (foldN s (ls.take (k + 1)) = (us ++ [s] ++ [x], true)) := ⟨by rw [HN.out]; unfold stepN; rw [if_neg (by simp), if_neg (by rw [hl]; simp), if_pos hne]⟩
            have hul : us.length ≤ 1048578 := by omega
            clear hxs
            go_wp2_with (first | (at_builtin; refine wpList_append_own _ rfl _ _ 69 rfl w.heap.size 9 i0 _ 1 16 Try.underlying69 hi hz0 hz1 hz2 rfl (by decide) _ _ _ rfl (hR2.row.alloc _) ⟨w2.heap.size, 0, none⟩ 1 1 [.string x] rfl rfl (cell_one_new _ _ _) (by simp [Value.oneCell']) (by unfold maxLen; omega) (by omega) (by have := hR2.bw.size; simp; omega) ?_; intro v3 w3 ho3 hg3 _; have hR3 := hR2.app (x := x) hg3 ho3) | (at_builtin; refine wpList_append_own _ rfl _ _ 69 rfl w.heap.size 9 i0 _ 1 16 Try.underlying69 hi hz0 hz1 hz2 rfl (by decide) _ _ _ rfl (hR.row.alloc _) ⟨wr.heap.size, 0, none⟩ 1 1 [.string s] rfl rfl (cell_one_new _ _ _) (by simp [Value.oneCell']) (by unfold maxLen; omega) (by omega) (by have := hR.bw.size; simp; omega) ?_; intro v2 w2 ho2 hg2 _; have hR2 := hR.app (x := s) hg2 ho2; have ck2 := hbm w2 hR2.bw; have hl2 : (us ++ [s]).length ≤ 1048579 := (by simp; omega)))
            go_roundw
            case rel => exact ⟨k + 1, by congr 1, by omega, by rw [HF.out], by rw [HF.out]; exact hR3⟩
            case measure => simp only [intOf]; omega
    · obtain rfl : k = ls.length := by omega
      rw [List.take_length] at hR hfl
      have HNL : Keep (nameL ls s = if (foldN s ls).2 = true then (foldN s ls).1 else (foldN s ls).1 ++ [s]) := ⟨rfl⟩
      rw [List.take_length]
      generalize foldN s ls = r at *
      obtain ⟨us, dn⟩ := r
      dsimp only at hR hfl HNL ⊢
      cases dn with
      | true =>
        rw [if_pos rfl] at HNL
        obtain ⟨ad, cp, rfl⟩ := owns_slice hR.row
        go_wp2
        go_ret
        rw [HNL.out]
        exact ⟨ad, cp, rfl, hR.row, hR.bw⟩
      | false =>
        rw [if_neg (by simp)] at HNL
        go_wp2_with (first | (at_builtin; refine wpList_append_own _ rfl _ _ 69 rfl w.heap.size 9 i0 _ 1 16 Try.underlying69 hi hz0 hz1 hz2 rfl (by decide) _ _ _ rfl (hR.row.alloc _) ⟨wr.heap.size, 0, none⟩ 1 1 [.string s] rfl rfl (cell_one_new _ _ _) (by simp [Value.oneCell']) (by unfold maxLen; omega) (by omega) (by have := hR.bw.size; simp; omega) ?_; intro v2 w2 ho2 hg2 _; have hR2 := hR.app (x := s) hg2 ho2))
        obtain ⟨ad, cp, rfl⟩ := owns_slice hR2.row
        go_ret
        rw [HNL.out]
        exact ⟨ad, cp, rfl, hR2.row, hR2.bw⟩
end Go.Proofs.Ytjlflmbifeocbaa

namespace Go.Proofs.Ytjlflmbifeocbaa
open Go.RowKit

def addP (l : List ByteArray) (ts : List En) : List ByteArray := (ts.map fun e => e.path).foldl nameL l
def pathsL (tss : List (List En)) : List ByteArray := tss.foldl addP []
theorem addP_take {l : List ByteArray} {ts : List En} {j : Nat} (hj : j < ts.length) : addP l (ts.take (j + 1)) = nameL (addP l (ts.take j)) ts[j].path := by
  unfold addP
  rw [List.take_succ_eq_append_getElem hj, List.map_append, List.foldl_append]
  rfl
theorem addP_len (l : List ByteArray) (ts : List En) : ∀ j, j ≤ ts.length → (addP l (ts.take j)).length ≤ l.length + j
  | 0, _ => by simp [addP]
  | j + 1, hj => by
    have h := addP_len l ts j (by omega)
    rw [addP_take (by omega)]
    have := nameL_len (addP l (ts.take j)) ts[j].path
    omega
theorem pathsL_take {tss : List (List En)} {k : Nat} (hk : k < tss.length) : pathsL (tss.take (k + 1)) = addP (pathsL (tss.take k)) tss[k] := by
  unfold pathsL
  rw [List.take_succ_eq_append_getElem hk, List.foldl_append]
  rfl
theorem addP_asc {l : List ByteArray} (hl : AscN l) : ∀ ts : List En, AscN (addP l ts) ∧ ∀ y, y ∈ addP l ts ↔ y ∈ l ∨ ∃ e ∈ ts, e.path = y := fun ts => by
  have key : ∀ j, j ≤ ts.length → AscN (addP l (ts.take j)) ∧ ∀ y, y ∈ addP l (ts.take j) ↔ y ∈ l ∨ ∃ e ∈ ts.take j, e.path = y := by
    intro j
    induction j with
    | zero => intro _; exact ⟨by simpa [addP] using hl, fun y => by simp [addP]⟩
    | succ j ih =>
      intro hj
      obtain ⟨h1, h2⟩ := ih (by omega)
      obtain ⟨h3, h4⟩ := nameL_asc (s := ts[j].path) h1
      rw [addP_take (by omega)]
      refine ⟨h3, fun y => ?_⟩
      rw [h4, h2, List.take_succ_eq_append_getElem (by omega)]
      constructor
      · rintro ((h | ⟨e, he, h⟩) | h)
        · exact .inl h
        · exact .inr ⟨e, List.mem_append.2 (.inl he), h⟩
        · exact .inr ⟨ts[j], List.mem_append.2 (.inr (by simp)), h.symm⟩
      · rintro (h | ⟨e, he, h⟩)
        · exact .inl (.inl h)
        · rcases List.mem_append.1 he with h5 | h5
          · exact .inl (.inr ⟨e, h5, h⟩)
          · rw [List.mem_singleton.1 h5] at h; exact .inr h.symm
  have h := key ts.length (Nat.le_refl _)
  rw [List.take_length] at h
  exact h

/-- Trees in a row of boxes. -/
def TsAt (w : World) (b off : Nat) (xs : List (Option Addr × Nat × List En)) : Prop :=
  ∀ i (h : i < xs.length), w.cell? ⟨b, off + i, none⟩ = some (.slice xs[i].1 xs[i].2.2.length xs[i].2.1) ∧ ES w xs[i].1 xs[i].2.2
theorem TsAt.below {w w' : World} {b off : Nat} {xs : List (Option Addr × Nat × List En)} (h : TsAt w b off xs) (hb : Below w.heap.size w w') : TsAt w' b off xs := fun i hi => ⟨cell_later hb (h i hi).1, (h i hi).2.below hb⟩
def tss (xs : List (Option Addr × Nat × List En)) : List (List En) := xs.map fun x => x.2.2

set_option maxRecDepth 100000 in
set_option maxHeartbeats 4000000 in
theorem l6Paths_any (b off cap : Nat) (xs : List (Option Addr × Nat × List En)) (w : World) (h : TsAt w b off xs) (hx : xs.length ≤ 10) (hn : ∀ x ∈ xs, x.2.2.length ≤ 1000) :
    Calls Try.prog 34 #[.slice (some ⟨b, off, none⟩) xs.length cap] w (NamesPost (pathsL (tss xs)) w) := by
  have hnil : NmR w (.slice (some ⟨w.heap.size, 0, none⟩) 0 0) [] (w.alloc (.cells #[] 9)) := ⟨⟨by simp, .inr ⟨w.heap.size, 0, #[], rfl, Nat.le_refl _, heap_alloc_new w _, Nat.le_refl _, by unfold maxLen; omega, rfl, by simp⟩⟩, (Below.refl _ _).alloc (Nat.le_refl _) _⟩
  have htl : (tss xs).length = xs.length := by simp [tss]
  go_enter Try.func34, Try.ntmps34
  go_wp2
  go_loopw [3, 4] (fun v i wr => ∃ k : Nat, i = .int .i64 k ∧ k ≤ xs.length ∧ NmR w v (pathsL ((tss xs).take k)) wr ∧ (pathsL ((tss xs).take k)).length ≤ 1000 * k) (fun _ i _ => xs.length - (intOf i).toNat)
  case atStart => exact ⟨0, rfl, Nat.zero_le _, hnil, Nat.zero_le _⟩
  case round =>
    obtain ⟨k, rfl, hk, hR, hle⟩ := hrel
    by_cases hlt : k < xs.length
    · have hlt' : (k : Int) < xs.length := by omega
      have HP : Keep (pathsL ((tss xs).take (k + 1)) = addP (pathsL ((tss xs).take k)) xs[k].2.2) := ⟨by rw [pathsL_take (by omega)]; congr 1; simp [tss]⟩
      have HT := fun W (hW : Below w.heap.size w W) => (h.below hW) k hlt
      have hnk := hn _ (List.getElem_mem hlt)
      generalize xs[k] = x at *
      obtain ⟨ad, cp, ts⟩ := x
      dsimp only at HP HT hnk
      generalize pathsL ((tss xs).take k) = acc at *
      have HHT : Keep (∀ W, Below w.heap.size w W → W.cell? ⟨b, off + k, none⟩ = some (.slice ad ts.length cp) ∧ ES W ad ts) := ⟨HT⟩
      have HX : Keep (TsAt w b off xs ∧ ∀ x ∈ xs, x.2.2.length ≤ 1000) := ⟨⟨h, hn⟩⟩
      clear HT hnil
      go_wp2
      go_loopw [3, 5] (fun v j wq => ∃ m : Nat, j = .int .i64 m ∧ m ≤ ts.length ∧ NmR w v (addP acc (ts.take m)) wq) (fun _ j _ => ts.length - (intOf j).toNat)
      case atStart => exact ⟨0, rfl, Nat.zero_le _, by simpa [addP] using hR⟩
      case round =>
        clear hR
        obtain ⟨m, rfl, hm, hR⟩ := hrel
        obtain ⟨hc, hE⟩ := HHT.out _ hR.bw
        have hal := addP_len acc ts m hm
        by_cases hml : m < ts.length
        · have hml' : (m : Int) < ts.length := by omega
          obtain ⟨b1, o1, rfl, hc1⟩ := hE.at hml
          obtain ⟨x0, _, _⟩ := hc1 m hml
          have HA : Keep (addP acc (ts.take (m + 1)) = nameL (addP acc (ts.take m)) ts[m].path) := ⟨addP_take hml⟩
          obtain ⟨ad2, cp2, rfl⟩ := owns_slice hR.row
          have hnm := l6Name_any ad2 cp2 (addP acc (ts.take m)) ts[m].path wr (ss_of_rowM hR.row) (by omega)
          generalize addP acc (ts.take m) = ls at *
          generalize ts[m].path = s at *
          clear hc1 hE
          go_wp2_with fail
          refine hnm.mono ?_
          rintro e w2 ⟨ad3, cp3, rfl, hrow, hb2⟩
          have hR2 : NmR w (.slice ad3 (nameL ls s).length cp3) (nameL ls s) w2 := ⟨by
            refine ⟨hrow.1, ?_⟩
            rcases hrow.2 with h' | ⟨g, cap', cur, hv, k1, k2⟩
            · exact .inl h'
            · exact .inr ⟨g, cap', cur, hv, Nat.le_trans hR.bw.size k1, k2⟩, hR.bw.trans (hb2.mono hR.bw.size)⟩
          clear hnm hrow hb2
          go_wp2
          go_roundw
          case rel => exact ⟨m + 1, by congr 1, by omega, by rw [HA.out]; exact hR2⟩
          case measure => simp only [intOf]; omega
        · obtain rfl : m = ts.length := by omega
          rw [List.take_length] at hR hal
          go_wp2
          go_roundw
          case rel => exact ⟨k + 1, by congr 1, by omega, by rw [HP.out]; exact hR, by rw [HP.out]; omega⟩
          case measure => simp only [intOf]; omega
    · obtain rfl : k = xs.length := by omega
      rw [List.take_of_length_le (by omega)] at hR
      obtain ⟨ad, cp, rfl⟩ := owns_slice hR.row
      go_wp2
      go_ret
      exact ⟨ad, cp, rfl, hR.row, hR.bw⟩
end Go.Proofs.Ytjlflmbifeocbaa
