/-
  Valid trees: plain.
-/
import Derived.Test.YtockgapdfcapnaaLay
namespace Go.Proofs.Ytockgapdfcapnaa
open Go.RowKit

/-! Order of texts. -/
theorem less_irrefl : ∀ l : List UInt8, Op.bytesLess l l = false
  | [] => rfl
  | a :: x => by
    have := less_irrefl x
    have h1 : ¬ a < a := by rw [UInt8.lt_iff_toNat_lt]; omega
    simp [Op.bytesLess, this, h1]
theorem less_trans : ∀ {a b c : List UInt8}, Op.bytesLess a b = true → Op.bytesLess b c = true → Op.bytesLess a c = true
  | [], [], _, h, _ => by simp [Op.bytesLess] at h
  | [], _ :: _, [], _, h => by simp [Op.bytesLess] at h
  | [], _ :: _, _ :: _, _, _ => by simp [Op.bytesLess]
  | _ :: _, [], _, h, _ => by simp [Op.bytesLess] at h
  | _ :: _, _ :: _, [], _, h => by simp [Op.bytesLess] at h
  | x :: a, y :: b, z :: c, h, k => by
    simp only [Op.bytesLess, Bool.or_eq_true, decide_eq_true_eq, Bool.and_eq_true, beq_iff_eq] at h k ⊢
    rcases h with h | ⟨rfl, h⟩
    · rcases k with k | ⟨rfl, k⟩
      · left; rw [UInt8.lt_iff_toNat_lt] at h k ⊢; omega
      · exact .inl h
    · rcases k with k | ⟨rfl, k⟩
      · exact .inl k
      · exact .inr ⟨rfl, less_trans h k⟩
theorem less_total : ∀ (a b : List UInt8), (!(Op.bytesLess a b)) = (Op.bytesLess b a || b == a)
  | [], [] => rfl
  | [], _ :: _ => by simp [Op.bytesLess]
  | _ :: _, [] => by simp [Op.bytesLess]
  | x :: a, y :: b => by
    have ih := less_total a b
    by_cases h : x = y
    · subst h
      have h1 : ¬ x < x := by rw [UInt8.lt_iff_toNat_lt]; omega
      simp [Op.bytesLess, h1] at ih ⊢
      exact ih
    · have hne : ¬ y = x := fun e => h e.symm
      by_cases hl : x < y
      · have h2 : ¬ y < x := by rw [UInt8.lt_iff_toNat_lt] at hl ⊢; omega
        simp [Op.bytesLess, hl, h2, hne]
      · have h2 : y < x := by
          have : x.toNat ≠ y.toNat := fun e => h (UInt8.toNat_inj.1 e)
          rw [UInt8.lt_iff_toNat_lt] at hl ⊢; omega
        simp [Op.bytesLess, hl, h2, h]
theorem less_more : ∀ (a : List UInt8) (c : UInt8) (r : List UInt8), Op.bytesLess a (a ++ c :: r) = true
  | [], c, r => by simp [Op.bytesLess]
  | x :: a, c, r => by simp [Op.bytesLess, less_more a c r]

/-! Parts put together again. -/
def joinS : List (List UInt8) → List UInt8
  | [] => []
  | [x] => x
  | x :: y :: r => x ++ 47 :: joinS (y :: r)
theorem joinS_cons (x : List UInt8) {t : List (List UInt8)} (h : t ≠ []) : joinS (x :: t) = x ++ 47 :: joinS t := by
  cases t with
  | nil => exact absurd rfl h
  | cons y r => rfl
theorem joinS_append : ∀ (a : List (List UInt8)) {b : List (List UInt8)}, a ≠ [] → b ≠ [] → joinS (a ++ b) = joinS a ++ 47 :: joinS b
  | [], _, h, _ => absurd rfl h
  | [x], b, _, hb => by rw [List.singleton_append, joinS_cons x hb]; rfl
  | x :: y :: r, b, _, hb => by
    rw [List.cons_append, joinS_cons x (by simp), joinS_append (y :: r) (by simp) hb, joinS_cons x (by simp)]
    simp
theorem join_split : ∀ l : List UInt8, joinS (splitS l) = l
  | [] => rfl
  | c :: cs => by
    have ih := join_split cs
    rw [splitS]
    split
    · rename_i h
      rw [joinS_cons _ (splitS_ne cs), ih, h]; rfl
    · cases hs : splitS cs with
      | nil => exact absurd hs (splitS_ne cs)
      | cons p ps =>
        rw [hs] at ih
        cases ps with
        | nil => simp only [joinS] at ih ⊢; rw [ih]
        | cons q qs => simp only [joinS] at ih ⊢; rw [← ih]; rfl
theorem split_app : ∀ (d r : List UInt8), splitS (d ++ 47 :: r) = splitS d ++ splitS r
  | [], r => by simp [splitS]
  | c :: cs, r => by
    have ih := split_app cs r
    rw [List.cons_append, splitS, splitS]
    split
    · rw [ih]; rfl
    · rw [ih]
      cases hs : splitS cs with
      | nil => exact absurd hs (splitS_ne cs)
      | cons p ps => rfl

theorem mkB_inj {a b : List UInt8} (h : mkB a = mkB b) : a = b := by
  have := congrArg (fun x : ByteArray => x.data.toList) h
  simpa [mkB_list] using this
theorem map_mkB_inj : ∀ {a b : List (List UInt8)}, a.map mkB = b.map mkB → a = b
  | [], [], _ => rfl
  | [], _ :: _, h => by simp at h
  | _ :: _, [], h => by simp at h
  | x :: a, y :: b, h => by
    simp only [List.map_cons, List.cons.injEq] at h
    rw [mkB_inj h.1, map_mkB_inj h.2]
theorem partsB_inj {a b : ByteArray} (h : partsB a = partsB b) : a = b := by
  have h1 := map_mkB_inj h
  have h2 := congrArg joinS h1
  rw [join_split, join_split] at h2
  exact WideShapes.bytes_inj h2

/-- A text, followed by a slash, is the beginning of another one. -/
def Begins (d p : ByteArray) : Prop := ∃ r, p.data.toList = d.data.toList ++ 47 :: r
theorem begins_iff {d p : ByteArray} : Begins d p ↔ partsB d <+: partsB p ∧ partsB d ≠ partsB p := by
  constructor
  · rintro ⟨r, hr⟩
    have h : partsB p = partsB d ++ (splitS r).map mkB := by rw [partsB, hr, split_app, List.map_append]; rfl
    refine ⟨⟨_, h.symm⟩, fun e => ?_⟩
    rw [h] at e
    have := congrArg List.length e
    exact splitS_ne r (by simpa using this)
  · rintro ⟨⟨t, ht⟩, hne⟩
    have ht0 : t ≠ [] := fun e => hne (by rw [e, List.append_nil] at ht; exact ht)
    obtain ⟨ts, rfl⟩ : ∃ ts, t = ts.map mkB := ⟨t.map (fun x => x.data.toList), by simp [Function.comp_def, mkB_data]⟩
    have h2 : splitS p.data.toList = splitS d.data.toList ++ ts := map_mkB_inj (by rw [List.map_append]; exact ht.symm)
    have h3 := congrArg joinS h2
    rw [join_split, joinS_append _ (splitS_ne _) (fun e => ht0 (by rw [e]; rfl)), join_split] at h3
    exact ⟨_, h3⟩
theorem begins_less {d p : ByteArray} (h : Begins d p) : Op.bytesLess d.toList p.toList = true := by
  obtain ⟨r, hr⟩ := h
  rw [Lib.toList_data, Lib.toList_data, hr]
  exact less_more _ _ _

def enOk (e : En) : Bool := pathOk pathB e.path && decide (e.text.size ≤ 1500)

/-- The tree of the entries laid so far. -/
structure Shape (L : List En) (β : Way → Option Nat) (φ : Way → Option (ByteArray × Bool)) : Prop where
  nodes : ∀ q, β q ≠ none ↔ q = [] ∨ ∃ e ∈ L, q <+: partsB e.path
  files : ∀ q, φ q ≠ none ↔ ∃ e ∈ L, partsB e.path = q
  vals : ∀ e ∈ L, φ (partsB e.path) = some (e.text, e.runs)

theorem Shape.files_nodes {L : List En} {β : Way → Option Nat} {φ : Way → Option (ByteArray × Bool)} (h : Shape L β φ) (q : Way) (hq : φ q ≠ none) : β q ≠ none := by
  obtain ⟨e, he, rfl⟩ := (h.files q).1 hq
  exact (h.nodes _).2 (.inr ⟨e, he, List.prefix_refl _⟩)
theorem Shape.start {β : Way → Option Nat} {φ : Way → Option (ByteArray × Bool)} (hβ : ∀ q, β q ≠ none ↔ q = []) (hφ : ∀ q, φ q = none) : Shape [] β φ :=
  ⟨fun q => by rw [hβ]; simp, fun q => by rw [hφ]; simp, fun e he => by simp at he⟩
theorem Shape.laid {L : List En} {β β' : Way → Option Nat} {φ : Way → Option (ByteArray × Bool)} (h : Shape L β φ) (e : En) (hno : φ (partsB e.path) = none) (hβ : ∀ q, β' q ≠ none ↔ β q ≠ none ∨ q <+: partsB e.path) : Shape (L ++ [e]) β' (upd φ (partsB e.path) (some (e.text, e.runs))) := by
  refine ⟨fun q => ?_, fun q => ?_, fun e' he => ?_⟩
  · rw [hβ, h.nodes]
    constructor
    · rintro ((h1 | ⟨e', h1, h2⟩) | h1)
      · exact .inl h1
      · exact .inr ⟨e', by simp [h1], h2⟩
      · exact .inr ⟨e, by simp, h1⟩
    · rintro (h1 | ⟨e', h1, h2⟩)
      · exact .inl (.inl h1)
      · rcases List.mem_append.1 h1 with h3 | h3
        · exact .inl (.inr ⟨e', h3, h2⟩)
        · rw [List.mem_singleton.1 h3] at h2; exact .inr h2
  · by_cases hq : q = partsB e.path
    · subst hq
      rw [upd_same]
      exact ⟨fun _ => ⟨e, by simp, rfl⟩, fun _ => by simp⟩
    · rw [upd_other _ _ hq, h.files]
      constructor
      · rintro ⟨e', h1, h2⟩; exact ⟨e', by simp [h1], h2⟩
      · rintro ⟨e', h1, h2⟩
        rcases List.mem_append.1 h1 with h3 | h3
        · exact ⟨e', h3, h2⟩
        · rw [List.mem_singleton.1 h3] at h2; exact absurd h2.symm hq
  · rcases List.mem_append.1 he with h3 | h3
    · have hv := h.vals e' h3
      rw [upd_other _ _ (fun e1 => by rw [e1, hno] at hv; cases hv)]
      exact hv
    · rw [List.mem_singleton.1 h3, upd_same]

/-- What is in the way of an entry that follows all of them. -/
theorem blocked_iff {L : List En} {β : Way → Option Nat} {φ : Way → Option (ByteArray × Bool)} (h : Shape L β φ) (e : En) (hless : ∀ e' ∈ L, Op.bytesLess e'.path.toList e.path.toList = true) :
    Blocked β φ (partsB e.path) ↔ ∃ e' ∈ L, Begins e'.path e.path := by
  constructor
  · rintro (⟨q, h1, h2, h3⟩ | h1 | ⟨x, h1⟩)
    · obtain ⟨e', he, rfl⟩ := (h.files q).1 h3
      exact ⟨e', he, begins_iff.2 ⟨h1, h2⟩⟩
    · obtain ⟨e', he, hp⟩ := (h.files _).1 h1
      have := hless e' he
      rw [partsB_inj hp, less_irrefl] at this
      cases this
    · rcases (h.nodes _).1 h1 with h2 | ⟨e', he, h2⟩
      · simp at h2
      · have hb : Begins e.path e'.path := begins_iff.2 ⟨(List.prefix_append _ [x]).trans h2, fun e1 => by rw [← e1] at h2; have := h2.length_le; simp at this; omega⟩
        have := less_trans (begins_less hb) (hless e' he)
        rw [less_irrefl] at this
        cases this
  · rintro ⟨e', he, hb⟩
    obtain ⟨h1, h2⟩ := begins_iff.1 hb
    exact .inl ⟨_, h1, h2, (h.files _).2 ⟨e', he, rfl⟩⟩

/-- Whether the entry at a place may stand there. -/
def OkAt (ts : List En) (i : Nat) : Prop := ∃ h : i < ts.length, enOk ts[i] = true ∧ (∀ j, j + 1 = i → ∀ hj : j < ts.length, Op.bytesLess ts[j].path.toList ts[i].path.toList = true) ∧ ∀ e' ∈ ts.take i, ¬ Begins e'.path ts[i].path

theorem asc {ts : List En} {k : Nat} (h : ∀ i, i < k → OkAt ts i) : ∀ i, i < k → ∀ j, j < i → ∀ (hi : i < ts.length) (hj : j < ts.length), Op.bytesLess ts[j].path.toList ts[i].path.toList = true := by
  intro i
  induction i with
  | zero => intro _ j hj; omega
  | succ i ih =>
    intro hik j hj hi' hj'
    obtain ⟨_, _, h2, _⟩ := h (i + 1) hik
    have h3 := h2 i rfl (by omega)
    by_cases e : j = i
    · subst e; exact h3
    · exact less_trans (ih (by omega) j (by omega) (by omega) hj') h3
theorem asc_all {ts : List En} {k : Nat} (h : ∀ i, i < k → OkAt ts i) (hk : k < ts.length) (hl : ∀ j, j + 1 = k → ∀ hj : j < ts.length, Op.bytesLess ts[j].path.toList ts[k].path.toList = true) : ∀ e' ∈ ts.take k, Op.bytesLess e'.path.toList ts[k].path.toList = true := by
  intro e' he
  obtain ⟨j, hj, rfl⟩ := List.getElem_of_mem he
  simp at hj
  rw [List.getElem_take]
  have hj' : j < ts.length := by omega
  by_cases e : j + 1 = k
  · exact hl j e hj'
  · exact less_trans (asc h (k - 1) (by omega) j (by omega) (by omega) hj') (hl (k - 1) (by omega) (by omega))

/-- A valid tree. -/
def ValidTs (ts : List En) : Prop := ts.length ≤ 100 ∧ ∀ i, i < ts.length → OkAt ts i
end Go.Proofs.Ytockgapdfcapnaa
