/-
  spec.MergeText.
-/
import Derived.Test.YtogefpbmchnaaaaMergeS
import Derived.Test.YtogefpbmchnaaaaLinesS
import Derived.Test.YtogefpbmchnaaaaCommS
namespace Go.Proofs.Ytogefpbmchnaaaa
open Go.RowKit

def mrgV (o : Option (List UInt8)) : Value := match o with
  | none => .tuple #[.string ⟨#[]⟩, .bool false]
  | some s => .tuple #[.string (lnB s), .bool true]

theorem seg_lines (s : ByteArray) (i j : Nat) : (seg (linesB s) i j).length ≤ s.size := by
  have := seg_le (linesB s) i j
  rw [show ((linesB s).map (fun l => l.data.toList)).flatten = catL (linesB s) from rfl, catL_lines, ← Lib.size_eq] at this
  exact this
theorem three_le {x y z s : List UInt8} {n : Nat} (h : three x y z = some s) (hy : y.length ≤ n) (hz : z.length ≤ n) : s.length ≤ n := by
  unfold three at h
  split at h
  · cases h; exact hz
  · split at h
    · cases h; exact hy
    · cases h

theorem asc_up {ss tt : List ByteArray} {ps : List (Nat × Nat)} {n j : Nat} (h : Asc2 ss tt n j ps) (hw : withP ps n = none) : Asc2 ss tt (n + 1) j ps := by
  cases ps with
  | nil => trivial
  | cons p ps =>
    rw [withP] at hw
    split at hw
    · cases hw
    · exact ⟨by have := h.1; omega, h.2⟩
theorem asc_hit {ss tt : List ByteArray} {ps : List (Nat × Nat)} {n j x : Nat} (h : Asc2 ss tt n j ps) (hw : withP ps n = some x) : ∃ r, ps = (n, x) :: r ∧ j ≤ x ∧ Asc2 ss tt (n + 1) (x + 1) r := by
  cases ps with
  | nil => simp [withP] at hw
  | cons p ps =>
    rw [withP] at hw
    split at hw
    · rename_i e
      cases hw
      subst e
      exact ⟨ps, rfl, h.2.1, h.2.2.2.2.2⟩
    · rw [withP_lt h.2.2.2.2.2 (by have := h.1; omega)] at hw
      cases hw
theorem asc_end {ss tt : List ByteArray} {ps : List (Nat × Nat)} {j : Nat} (h : Asc2 ss tt ss.length j ps) : ps = [] := by
  cases ps with
  | nil => rfl
  | cons p ps => have h1 := h.1; have h2 := h.2.2.1; omega
theorem placesP_cons (n x : Nat) (r pb : List (Nat × Nat)) : placesP ((n, x) :: r) pb = (match withP pb n with
    | none => placesP r pb
    | some y => (n, x, y) :: placesP r pb) := by
  unfold placesP
  rw [List.filterMap_cons]
  cases withP pb n <;> rfl

/-- Where the merging stands, ahead of line n of base. -/
structure At (lb la lc : List ByteArray) (pa pb : List (Nat × Nat)) (n i j k : Nat) (out : List UInt8) (R : List (Nat × Nat)) (j1 : Nat) : Prop where
  asc : Asc2 lb la n j1 R
  same : ∀ m, n ≤ m → withP pa m = withP R m
  i_n : i ≤ n
  j_1 : j ≤ j1
  j_a : j ≤ la.length
  k_c : k ≤ lc.length
  k_y : ∀ m y, n ≤ m → withP pb m = some y → k ≤ y
  all : runS lb la lc (0, 0, 0) (placesP pa pb) (lb.length, la.length, lc.length) = (runS lb la lc (i, j, k) (placesP R pb) (lb.length, la.length, lc.length)).map (out ++ ·)

theorem At.start {lb la lc : List ByteArray} {pa pb : List (Nat × Nat)} (ha : Asc2 lb la 0 0 pa) : At lb la lc pa pb 0 0 0 0 [] pa 0 :=
  ⟨ha, fun _ _ => rfl, Nat.le_refl _, Nat.le_refl _, Nat.zero_le _, Nat.zero_le _, fun _ _ _ _ => Nat.zero_le _, by simp⟩
/-- A line that does not stand. -/
theorem At.skipA {lb la lc : List ByteArray} {pa pb : List (Nat × Nat)} {n i j k : Nat} {out : List UInt8} {R : List (Nat × Nat)} {j1 : Nat} (h : At lb la lc pa pb n i j k out R j1) (hw : withP pa n = none) : At lb la lc pa pb (n + 1) i j k out R j1 :=
  ⟨asc_up h.asc (by rw [← h.same n (Nat.le_refl _)]; exact hw), fun m hm => h.same m (by omega), by have := h.i_n; omega, h.j_1, h.j_a, h.k_c, fun m y hm => h.k_y m y (by omega), h.all⟩
theorem At.skipB {lb la lc : List ByteArray} {pa pb : List (Nat × Nat)} {n i j k : Nat} {out : List UInt8} {R : List (Nat × Nat)} {j1 x : Nat} (h : At lb la lc pa pb n i j k out R j1) (hw : withP pa n = some x) (hv : withP pb n = none) : ∃ R', At lb la lc pa pb (n + 1) i j k out R' (x + 1) := by
  obtain ⟨r, rfl, hx, ha⟩ := asc_hit h.asc (by rw [← h.same n (Nat.le_refl _)]; exact hw)
  refine ⟨r, ha, fun m hm => ?_, by have := h.i_n; omega, by have := h.j_1; omega, h.j_a, h.k_c, fun m y hm => h.k_y m y (by omega), ?_⟩
  · rw [h.same m (by omega), withP, if_neg (by simp; omega)]
  · rw [h.all, placesP_cons, hv]
/-- A line that stands: the stretch in front of it, and it. -/
theorem At.takes {lb la lc : List ByteArray} {pa pb : List (Nat × Nat)} {n i j k : Nat} {out : List UInt8} {R : List (Nat × Nat)} {j1 x y : Nat} (hb : Asc2 lb lc 0 0 pb) (h : At lb la lc pa pb n i j k out R j1) (hw : withP pa n = some x) (hv : withP pb n = some y) :
    j ≤ x ∧ x ≤ la.length ∧ k ≤ y ∧ y ≤ lc.length ∧ (three (seg lb i n) (seg la j x) (seg lc k y) = none → runS lb la lc (0, 0, 0) (placesP pa pb) (lb.length, la.length, lc.length) = none) ∧
    ∀ s, three (seg lb i n) (seg la j x) (seg lc k y) = some s → ∃ R', At lb la lc pa pb (n + 1) (n + 1) (x + 1) (y + 1) (out ++ (s ++ ((lb[n]?).getD ⟨#[]⟩).data.toList)) R' (x + 1) := by
  obtain ⟨r, rfl, hx, ha⟩ := asc_hit h.asc (by rw [← h.same n (Nat.le_refl _)]; exact hw)
  obtain ⟨y1, y2, y3, y4⟩ := withP_some hb hv
  have hk := h.k_y n y (Nat.le_refl _) hv
  have h5 := h.asc.2.2.2.1
  have hj1 := h.j_1
  have hall := h.all
  rw [placesP_cons, hv] at hall
  simp only [runS] at hall
  refine ⟨by omega, by simp at h5; omega, hk, by omega, fun h3 => ?_, fun s h3 => ⟨r, ha, fun m hm => ?_, Nat.le_refl _, Nat.le_refl _, by simp at h5; omega, by omega, fun m y' hm hy => ?_, ?_⟩⟩
  · rw [hall, h3]; rfl
  · rw [h.same m (by omega), withP, if_neg (by simp; omega)]
  · have := withP_mono hb hv hy (by omega); omega
  · rw [hall, h3]
    simp only
    cases runS lb la lc (n + 1, x + 1, y + 1) (placesP r pb) (lb.length, la.length, lc.length) <;> simp
/-- The end. -/
theorem At.ends {lb la lc : List ByteArray} {pa pb : List (Nat × Nat)} {i j k : Nat} {out : List UInt8} {R : List (Nat × Nat)} {j1 : Nat} (h : At lb la lc pa pb lb.length i j k out R j1) :
    runS lb la lc (0, 0, 0) (placesP pa pb) (lb.length, la.length, lc.length) = (three (seg lb i lb.length) (seg la j la.length) (seg lc k lc.length)).map (out ++ ·) := by
  have := asc_end h.asc
  subst this
  rw [h.all]
  rfl

theorem rdl_of_row {w : World} {base : Nat} {ad : Option Addr} {cp : Nat} {ls : List ByteArray} (h : w.ownsRow base 9 1 (.slice ad ls.length cp) ls.length (ls.map .string)) : ls.length ≤ cp ∧ SS w ad ls := by
  rcases h.2 with ⟨hv, h0⟩ | ⟨g, c, cur, hv, _, _, h4, _⟩
  · exact ⟨by omega, .inl (List.eq_nil_of_length_eq_zero h0)⟩
  · cases hv
    refine ⟨h4, .inr ⟨g, 0, rfl, fun i hi => ?_⟩⟩
    rw [Nat.zero_add, h.cellAt i (by omega), List.getElem?_map, List.getElem?_eq_getElem hi]
    rfl
end Go.Proofs.Ytogefpbmchnaaaa
