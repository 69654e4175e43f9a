/-
  Two lists that ascend by their paths, side by side, plain.
-/
import Derived.Test.YtjlflmbifeocbaaCmpB
import Derived.Test.YtjlflmbifeocbaaNameP
namespace Go.Proofs.Ytjlflmbifeocbaa
open Go.RowKit

theorem compare_pos : ∀ {a b : List UInt8}, 0 < Lib.compareBytes a b ↔ Op.bytesLess b a = true
  | [], [] => by simp [Lib.compareBytes, Op.bytesLess]
  | [], _ :: _ => by simp [Lib.compareBytes, Op.bytesLess]
  | _ :: _, [] => by simp [Lib.compareBytes, Op.bytesLess]
  | x :: a, y :: b => by
    have ih := compare_pos (a := a) (b := b)
    by_cases h : x < y
    · have h2 : ¬ y < x := fun e => by rw [UInt8.lt_iff_toNat_lt] at h e; omega
      have hne : ¬ y = x := fun e => by subst e; exact h2 h
      simp [Lib.compareBytes, Op.bytesLess, h, h2, hne]
    · by_cases h2 : y < x
      · simp [Lib.compareBytes, Op.bytesLess, h, h2]
      · have he : x = y := by
          rw [UInt8.lt_iff_toNat_lt] at h h2
          exact UInt8.toNat_inj.1 (by omega)
        subst he
        simp [Lib.compareBytes, Op.bytesLess, h, ih]

def mrg {α β : Type} (pa : α → ByteArray) (pb : β → ByteArray) : Nat → List α → List β → List (ByteArray × Option α × Option β)
  | 0, _, _ => []
  | _ + 1, [], [] => []
  | n + 1, [], y :: us => (pb y, none, some y) :: mrg pa pb n [] us
  | n + 1, x :: ts, [] => (pa x, some x, none) :: mrg pa pb n ts []
  | n + 1, x :: ts, y :: us =>
    if Lib.compareBytes (pa x).data.toList (pb y).data.toList < 0 then (pa x, some x, none) :: mrg pa pb n ts (y :: us)
    else if 0 < Lib.compareBytes (pa x).data.toList (pb y).data.toList then (pb y, none, some y) :: mrg pa pb n (x :: ts) us
    else (pa x, some x, some y) :: mrg pa pb n ts us

/-- What stands under a path. -/
def fnd {α : Type} (pa : α → ByteArray) (ts : List α) (p : ByteArray) : Option α := ts.find? fun x => (pa x).toList == p.toList
def AscK {α : Type} (pa : α → ByteArray) (ts : List α) : Prop := ts.Pairwise fun a b => Op.bytesLess (pa a).toList (pa b).toList = true
theorem eqb_iff {x y : ByteArray} : (x.toList == y.toList) = true ↔ x = y := by
  constructor
  · intro h
    have h1 : x.toList = y.toList := by simpa using h
    rw [Lib.toList_data, Lib.toList_data] at h1
    exact WideShapes.bytes_inj h1
  · intro h; rw [h]; simp
theorem neb_iff {x y : ByteArray} : (x.toList == y.toList) = false ↔ x ≠ y := by
  rw [Bool.eq_false_iff, ne_eq, eqb_iff]
theorem fnd_cons_ne {α : Type} {pa : α → ByteArray} {x : α} {ts : List α} {p : ByteArray} (h : pa x ≠ p) : fnd pa (x :: ts) p = fnd pa ts p := by
  unfold fnd
  rw [List.find?_cons, neb_iff.2 h]
theorem fnd_cons_eq {α : Type} {pa : α → ByteArray} {x : α} {ts : List α} {p : ByteArray} (h : pa x = p) : fnd pa (x :: ts) p = some x := by
  unfold fnd
  rw [List.find?_cons, eqb_iff.2 h]
theorem fnd_none {α : Type} {pa : α → ByteArray} {ts : List α} {p : ByteArray} (h : ∀ x ∈ ts, pa x ≠ p) : fnd pa ts p = none := by
  unfold fnd
  rw [List.find?_eq_none]
  intro x hx e
  exact h x hx (eqb_iff.1 e)
theorem fnd_some {α : Type} {pa : α → ByteArray} {ts : List α} {p : ByteArray} {x : α} (h : fnd pa ts p = some x) : x ∈ ts ∧ pa x = p := by
  unfold fnd at h
  obtain ⟨h2, l1, l2, rfl, _⟩ := List.find?_eq_some_iff_append.1 h
  exact ⟨by simp, eqb_iff.1 h2⟩

theorem toList_eq_data (x : ByteArray) : x.toList = x.data.toList := Lib.toList_data x

/-- The least of names comes first. -/
theorem ascN_head {ns : List ByteArray} {p : ByteArray} (hA : AscN ns) (hp : p ∈ ns) (hl : ∀ q ∈ ns, q ≠ p → Op.bytesLess p.toList q.toList = true) :
    ∃ r, ns = p :: r ∧ AscN r ∧ (∀ q ∈ r, q ≠ p) := by
  cases ns with
  | nil => cases hp
  | cons q r =>
    obtain ⟨hq, hr⟩ := List.pairwise_cons.1 hA
    have hirr : ∀ z : ByteArray, Op.bytesLess z.toList z.toList ≠ true := fun z e => by rw [less_irrefl] at e; cases e
    have e : q = p := by
      rcases List.mem_cons.1 hp with e | e
      · exact e.symm
      · by_cases h : q = p
        · exact h
        · exact absurd (less_trans (hq p e) (hl q (by simp) h)) (hirr q)
    subst e
    exact ⟨r, rfl, hr, fun z hz e => by rw [e] at hz; exact hirr q (hq q hz)⟩

theorem mrg_eq {α β : Type} (pa : α → ByteArray) (pb : β → ByteArray) : ∀ (n : Nat) (ts : List α) (us : List β) (ns : List ByteArray), ts.length + us.length ≤ n → AscK pa ts → AscK pb us → AscN ns →
    (∀ p, p ∈ ns ↔ (∃ x ∈ ts, pa x = p) ∨ ∃ y ∈ us, pb y = p) → mrg pa pb n ts us = ns.map fun p => (p, fnd pa ts p, fnd pb us p)
  | 0, ts, us, ns, hn, _, _, _, hm => by
    have h1 : ts = [] := List.eq_nil_of_length_eq_zero (by omega)
    have h2 : us = [] := List.eq_nil_of_length_eq_zero (by omega)
    subst h1 h2
    cases ns with
    | nil => rfl
    | cons p ns => have := (hm p).1 (by simp); simp at this
  | n + 1, [], [], ns, _, _, _, _, hm => by
    cases ns with
    | nil => rfl
    | cons p ns => have := (hm p).1 (by simp); simp at this
  | n + 1, [], y :: us, ns, hn, hA, hB, hN, hm => by
    obtain ⟨hy, hB'⟩ := List.pairwise_cons.1 hB
    obtain ⟨r, rfl, hr, hq⟩ := ascN_head (p := pb y) hN ((hm _).2 (.inr ⟨y, by simp, rfl⟩)) (fun q h1 h2 => by
      rcases (hm q).1 h1 with ⟨x, hx, _⟩ | ⟨z, hz, rfl⟩
      · cases hx
      · rcases List.mem_cons.1 hz with e | e
        · exact absurd (by rw [e]) h2
        · exact hy z e)
    have ih := mrg_eq pa pb n [] us r (by simp at hn ⊢; omega) hA hB' hr (fun p => by
      constructor
      · intro hp
        rcases (hm p).1 (by simp [hp]) with ⟨x, hx, _⟩ | ⟨z, hz, rfl⟩
        · cases hx
        · rcases List.mem_cons.1 hz with e | e
          · exact absurd (by rw [e]) (hq _ hp)
          · exact .inr ⟨z, e, rfl⟩
      · rintro (⟨x, hx, _⟩ | ⟨z, hz, rfl⟩)
        · cases hx
        · rcases List.mem_cons.1 ((hm (pb z)).2 (.inr ⟨z, by simp [hz], rfl⟩)) with e | e
          · exact absurd e.symm (less_ne (hy z hz))
          · exact e)
    show (pb y, none, some y) :: mrg pa pb n [] us = _
    rw [ih, List.map_cons]
    congr 1
    · rw [fnd_cons_eq rfl]; rfl
    · refine List.map_congr_left fun p hp => ?_
      rw [fnd_cons_ne (fun e => hq p hp e.symm)]
  | n + 1, x :: ts, [], ns, hn, hA, hB, hN, hm => by
    obtain ⟨hx, hA'⟩ := List.pairwise_cons.1 hA
    obtain ⟨r, rfl, hr, hq⟩ := ascN_head (p := pa x) hN ((hm _).2 (.inl ⟨x, by simp, rfl⟩)) (fun q h1 h2 => by
      rcases (hm q).1 h1 with ⟨z, hz, rfl⟩ | ⟨x, hx, _⟩
      · rcases List.mem_cons.1 hz with e | e
        · exact absurd (by rw [e]) h2
        · exact hx z e
      · cases hx)
    have ih := mrg_eq pa pb n ts [] r (by simp at hn ⊢; omega) hA' hB hr (fun p => by
      constructor
      · intro hp
        rcases (hm p).1 (by simp [hp]) with ⟨z, hz, rfl⟩ | ⟨x, hx, _⟩
        · rcases List.mem_cons.1 hz with e | e
          · exact absurd (by rw [e]) (hq _ hp)
          · exact .inl ⟨z, e, rfl⟩
        · cases hx
      · rintro (⟨z, hz, rfl⟩ | ⟨x, hx, _⟩)
        · rcases List.mem_cons.1 ((hm (pa z)).2 (.inl ⟨z, by simp [hz], rfl⟩)) with e | e
          · exact absurd e.symm (less_ne (hx z hz))
          · exact e
        · cases hx)
    show (pa x, some x, none) :: mrg pa pb n ts [] = _
    rw [ih, List.map_cons]
    congr 1
    · rw [fnd_cons_eq rfl]; rfl
    · refine List.map_congr_left fun p hp => ?_
      rw [fnd_cons_ne (fun e => hq p hp e.symm)]
  | n + 1, x :: ts, y :: us, ns, hn, hA, hB, hN, hm => by
    obtain ⟨hx, hA'⟩ := List.pairwise_cons.1 hA
    obtain ⟨hy, hB'⟩ := List.pairwise_cons.1 hB
    unfold mrg
    by_cases hlt : Lib.compareBytes (pa x).data.toList (pb y).data.toList < 0
    · rw [if_pos hlt]
      have hxy : Op.bytesLess (pa x).toList (pb y).toList = true := by rw [toList_eq_data, toList_eq_data]; exact compare_neg.1 hlt
      have hyl : ∀ z ∈ y :: us, Op.bytesLess (pa x).toList (pb z).toList = true := fun z hz => by
        rcases List.mem_cons.1 hz with e | e
        · rw [e]; exact hxy
        · exact less_trans hxy (hy z e)
      obtain ⟨r, rfl, hr, hq⟩ := ascN_head (p := pa x) hN ((hm _).2 (.inl ⟨x, by simp, rfl⟩)) (fun q h1 h2 => by
        rcases (hm q).1 h1 with ⟨z, hz, rfl⟩ | ⟨z, hz, rfl⟩
        · rcases List.mem_cons.1 hz with e | e
          · exact absurd (by rw [e]) h2
          · exact hx z e
        · exact hyl z hz)
      have ih := mrg_eq pa pb n ts (y :: us) r (by simp at hn ⊢; omega) hA' hB hr (fun p => by
        constructor
        · intro hp
          rcases (hm p).1 (by simp [hp]) with ⟨z, hz, rfl⟩ | h
          · rcases List.mem_cons.1 hz with e | e
            · exact absurd (by rw [e]) (hq _ hp)
            · exact .inl ⟨z, e, rfl⟩
          · exact .inr h
        · rintro (⟨z, hz, rfl⟩ | ⟨z, hz, rfl⟩)
          · rcases List.mem_cons.1 ((hm (pa z)).2 (.inl ⟨z, by simp [hz], rfl⟩)) with e | e
            · exact absurd e.symm (less_ne (hx z hz))
            · exact e
          · rcases List.mem_cons.1 ((hm (pb z)).2 (.inr ⟨z, hz, rfl⟩)) with e | e
            · exact absurd e.symm (less_ne (hyl z hz))
            · exact e)
      rw [ih, List.map_cons]
      congr 1
      · rw [fnd_cons_eq rfl, fnd_none (fun z hz e => less_ne (hyl z hz) e.symm)]
      · refine List.map_congr_left fun p hp => ?_
        rw [fnd_cons_ne (pa := pa) (fun e => hq p hp e.symm)]
    · rw [if_neg hlt]
      by_cases hgt : 0 < Lib.compareBytes (pa x).data.toList (pb y).data.toList
      · rw [if_pos hgt]
        have hxy : Op.bytesLess (pb y).toList (pa x).toList = true := by rw [toList_eq_data, toList_eq_data]; exact compare_pos.1 hgt
        have hxl : ∀ z ∈ x :: ts, Op.bytesLess (pb y).toList (pa z).toList = true := fun z hz => by
          rcases List.mem_cons.1 hz with e | e
          · rw [e]; exact hxy
          · exact less_trans hxy (hx z e)
        obtain ⟨r, rfl, hr, hq⟩ := ascN_head (p := pb y) hN ((hm _).2 (.inr ⟨y, by simp, rfl⟩)) (fun q h1 h2 => by
          rcases (hm q).1 h1 with ⟨z, hz, rfl⟩ | ⟨z, hz, rfl⟩
          · exact hxl z hz
          · rcases List.mem_cons.1 hz with e | e
            · exact absurd (by rw [e]) h2
            · exact hy z e)
        have ih := mrg_eq pa pb n (x :: ts) us r (by simp at hn ⊢; omega) hA hB' hr (fun p => by
          constructor
          · intro hp
            rcases (hm p).1 (by simp [hp]) with h | ⟨z, hz, rfl⟩
            · exact .inl h
            · rcases List.mem_cons.1 hz with e | e
              · exact absurd (by rw [e]) (hq _ hp)
              · exact .inr ⟨z, e, rfl⟩
          · rintro (⟨z, hz, rfl⟩ | ⟨z, hz, rfl⟩)
            · rcases List.mem_cons.1 ((hm (pa z)).2 (.inl ⟨z, hz, rfl⟩)) with e | e
              · exact absurd e.symm (less_ne (hxl z hz))
              · exact e
            · rcases List.mem_cons.1 ((hm (pb z)).2 (.inr ⟨z, by simp [hz], rfl⟩)) with e | e
              · exact absurd e.symm (less_ne (hy z hz))
              · exact e)
        rw [ih, List.map_cons]
        congr 1
        · rw [fnd_cons_eq rfl, fnd_none (fun z hz e => less_ne (hxl z hz) e.symm)]
        · refine List.map_congr_left fun p hp => ?_
          rw [fnd_cons_ne (pa := pb) (fun e => hq p hp e.symm)]
      · rw [if_neg hgt]
        have exy : pa x = pb y := by
          by_cases h : pa x = pb y
          · exact h
          · exfalso
            have h1 : Op.bytesLess (pa x).toList (pb y).toList = false := by
              rw [Bool.eq_false_iff]
              intro e
              rw [toList_eq_data, toList_eq_data] at e
              exact hlt (compare_neg.2 e)
            have h2 := less_of h1 h
            rw [toList_eq_data, toList_eq_data] at h2
            exact hgt (compare_pos.2 h2)
        obtain ⟨r, rfl, hr, hq⟩ := ascN_head (p := pa x) hN ((hm _).2 (.inl ⟨x, by simp, rfl⟩)) (fun q h1 h2 => by
          rcases (hm q).1 h1 with ⟨z, hz, rfl⟩ | ⟨z, hz, rfl⟩
          · rcases List.mem_cons.1 hz with e | e
            · exact absurd (by rw [e]) h2
            · exact hx z e
          · rcases List.mem_cons.1 hz with e | e
            · exact absurd (by rw [e, exy]) h2
            · rw [exy]; exact hy z e)
        have ih := mrg_eq pa pb n ts us r (by simp at hn ⊢; omega) hA' hB' hr (fun p => by
          constructor
          · intro hp
            rcases (hm p).1 (by simp [hp]) with ⟨z, hz, rfl⟩ | ⟨z, hz, rfl⟩
            · rcases List.mem_cons.1 hz with e | e
              · exact absurd (by rw [e]) (hq _ hp)
              · exact .inl ⟨z, e, rfl⟩
            · rcases List.mem_cons.1 hz with e | e
              · exact absurd (by rw [e, exy]) (hq _ hp)
              · exact .inr ⟨z, e, rfl⟩
          · rintro (⟨z, hz, rfl⟩ | ⟨z, hz, rfl⟩)
            · rcases List.mem_cons.1 ((hm (pa z)).2 (.inl ⟨z, by simp [hz], rfl⟩)) with e | e
              · exact absurd e.symm (less_ne (hx z hz))
              · exact e
            · rcases List.mem_cons.1 ((hm (pb z)).2 (.inr ⟨z, by simp [hz], rfl⟩)) with e | e
              · rw [exy] at e; exact absurd e.symm (less_ne (hy z hz))
              · exact e)
        rw [ih, List.map_cons]
        congr 1
        · rw [fnd_cons_eq rfl, fnd_cons_eq exy.symm]
        · refine List.map_congr_left fun p hp => ?_
          rw [fnd_cons_ne (pa := pa) (fun e => hq p hp e.symm), fnd_cons_ne (pa := pb) (fun e => hq p hp (by rw [exy, e]))]
/-- The fronts of two lists held against each other. -/
def frontG {α β : Type} (pa : α → ByteArray) (pb : β → ByteArray) : List α → List β → Int
  | [], _ => 1
  | _ :: _, [] => -1
  | x :: _, y :: _ => Lib.compareBytes (pa x).data.toList (pb y).data.toList
theorem frontG_lt {α β : Type} {pa : α → ByteArray} {pb : β → ByteArray} {f : Nat} {ts : List α} {us : List β} (h : frontG pa pb ts us < 0) : ∃ x tr, ts = x :: tr ∧ mrg pa pb (f + 1) ts us = (pa x, some x, none) :: mrg pa pb f tr us := by
  cases ts with
  | nil => simp [frontG] at h
  | cons x tr =>
    refine ⟨x, tr, rfl, ?_⟩
    cases us with
    | nil => rfl
    | cons y ur =>
      simp only [frontG] at h
      simp only [mrg]
      rw [if_pos h]
theorem frontG_gt {α β : Type} {pa : α → ByteArray} {pb : β → ByteArray} {f : Nat} {ts : List α} {us : List β} (h : 0 < frontG pa pb ts us) (hne : ¬ (ts = [] ∧ us = [])) : ∃ y ur, us = y :: ur ∧ mrg pa pb (f + 1) ts us = (pb y, none, some y) :: mrg pa pb f ts ur := by
  cases us with
  | nil =>
    cases ts with
    | nil => exact absurd ⟨rfl, rfl⟩ hne
    | cons x tr => simp [frontG] at h
  | cons y ur =>
    refine ⟨y, ur, rfl, ?_⟩
    cases ts with
    | nil => rfl
    | cons x tr =>
      simp only [frontG] at h
      simp only [mrg]
      rw [if_neg (by omega), if_pos h]
theorem frontG_eq {α β : Type} {pa : α → ByteArray} {pb : β → ByteArray} {f : Nat} {ts : List α} {us : List β} (h : frontG pa pb ts us = 0) : ∃ x tr y ur, ts = x :: tr ∧ us = y :: ur ∧ mrg pa pb (f + 1) ts us = (pa x, some x, some y) :: mrg pa pb f tr ur := by
  cases ts with
  | nil => simp [frontG] at h
  | cons x tr =>
    cases us with
    | nil => simp [frontG] at h
    | cons y ur =>
      refine ⟨x, tr, y, ur, rfl, rfl, ?_⟩
      simp only [frontG] at h
      simp only [mrg]
      rw [if_neg (by omega), if_neg (by omega)]
theorem drop_cons {α : Type} {ts : List α} {p : Nat} {x : α} {tr : List α} (h : ts.drop p = x :: tr) : ∃ hp : p < ts.length, ts[p] = x ∧ ts.drop (p + 1) = tr := by
  have hp : p < ts.length := by
    rcases Nat.lt_or_ge p ts.length with h1 | h1
    · exact h1
    · rw [List.drop_of_length_le h1] at h; cases h
  rw [List.drop_eq_getElem_cons hp] at h
  injection h with h1 h2
  exact ⟨hp, h1, h2⟩
end Go.Proofs.Ytjlflmbifeocbaa
