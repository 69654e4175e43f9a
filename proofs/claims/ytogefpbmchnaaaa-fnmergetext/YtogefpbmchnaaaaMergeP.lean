/-
  Merging by lines: plain.
-/
import Derived.Test.YtogefpbmchnaaaaCommI
import Derived.Test.YtogefpbmchnaaaaLinesP
namespace Go.Proofs.Ytogefpbmchnaaaa
open Go.RowKit

abbrev Pl := Nat × Nat × Nat

/-- A stretch of lines, as one text. -/
def seg (ls : List ByteArray) (i j : Nat) : List UInt8 := (((ls.take j).drop i).map (fun l => l.data.toList)).flatten
def three (x y z : List UInt8) : Option (List UInt8) := if y = x then some z else if z = x ∨ z = y then some y else none
theorem three_pre (p x y z : List UInt8) : three (p ++ x) (p ++ y) (p ++ z) = (three x y z).map (p ++ ·) := by
  unfold three
  simp only [List.append_cancel_left_eq]
  split
  · rfl
  · split <;> rfl
theorem seg_cons {ls : List ByteArray} {i j : Nat} (h : i < j) (hj : j ≤ ls.length) : seg ls i j = (ls[i]'(by omega)).data.toList ++ seg ls (i + 1) j := by
  unfold seg
  rw [List.drop_eq_getElem_cons (by simp; omega)]
  simp
theorem seg_le (ls : List ByteArray) (i j : Nat) : (seg ls i j).length ≤ ((ls.map (fun l => l.data.toList)).flatten).length :=
  sub_flat (((List.drop_sublist i _).trans (List.take_sublist j ls)).map _)

/-- As the program goes: from place to place, the line that stands in front with each stretch. -/
def runI (lb la lc : List ByteArray) : Pl → List Pl → Option (List UInt8)
  | _, [] => some []
  | f, t :: ts => match three (seg lb f.1 t.1) (seg la f.2.1 t.2.1) (seg lc f.2.2 t.2.2) with
    | none => none
    | some s => (runI lb la lc t ts).map (s ++ ·)
/-- As the specification goes: a stretch, then the line that stands. -/
def runS (lb la lc : List ByteArray) : Pl → List Pl → Pl → Option (List UInt8)
  | f, [], z => three (seg lb f.1 z.1) (seg la f.2.1 z.2.1) (seg lc f.2.2 z.2.2)
  | f, t :: ts, z => match three (seg lb f.1 t.1) (seg la f.2.1 t.2.1) (seg lc f.2.2 t.2.2) with
    | none => none
    | some s => (runS lb la lc (t.1 + 1, t.2.1 + 1, t.2.2 + 1) ts z).map ((s ++ ((lb[t.1]?).getD ⟨#[]⟩).data.toList) ++ ·)

/-- Places of lines that stand: ascending, in bounds, one line. -/
def Stands (lb la lc : List ByteArray) : Pl → List Pl → Prop
  | _, [] => True
  | f, t :: ts => f.1 ≤ t.1 ∧ f.2.1 ≤ t.2.1 ∧ f.2.2 ≤ t.2.2 ∧ t.1 < lb.length ∧ t.2.1 < la.length ∧ t.2.2 < lc.length ∧ lb[t.1]? = la[t.2.1]? ∧ lb[t.1]? = lc[t.2.2]? ∧ Stands lb la lc (t.1 + 1, t.2.1 + 1, t.2.2 + 1) ts

theorem three_lines {lb la lc : List ByteArray} {f t : Pl} (h1 : f.1 < t.1) (h2 : f.2.1 < t.2.1) (h3 : f.2.2 < t.2.2) (k1 : t.1 ≤ lb.length) (k2 : t.2.1 ≤ la.length) (k3 : t.2.2 ≤ lc.length) (e1 : lb[f.1]? = la[f.2.1]?) (e2 : lb[f.1]? = lc[f.2.2]?) :
    three (seg lb f.1 t.1) (seg la f.2.1 t.2.1) (seg lc f.2.2 t.2.2) = (three (seg lb (f.1 + 1) t.1) (seg la (f.2.1 + 1) t.2.1) (seg lc (f.2.2 + 1) t.2.2)).map (((lb[f.1]?).getD ⟨#[]⟩).data.toList ++ ·) := by
  rw [seg_cons h1 k1, seg_cons h2 k2, seg_cons h3 k3]
  have l1 : f.1 < lb.length := by omega
  have l2 : f.2.1 < la.length := by omega
  have l3 : f.2.2 < lc.length := by omega
  rw [List.getElem?_eq_getElem l1, List.getElem?_eq_getElem l2] at e1
  rw [List.getElem?_eq_getElem l1, List.getElem?_eq_getElem l3] at e2
  rw [← Option.some.inj e1, ← Option.some.inj e2, three_pre, List.getElem?_eq_getElem l1]
  rfl

/-- Both ways come to one text, with the line in front. -/
theorem run_same {lb la lc : List ByteArray} : ∀ (ts : List Pl) (f : Pl), f.1 < lb.length → f.2.1 < la.length → f.2.2 < lc.length → lb[f.1]? = la[f.2.1]? → lb[f.1]? = lc[f.2.2]? → Stands lb la lc (f.1 + 1, f.2.1 + 1, f.2.2 + 1) ts →
    runI lb la lc f (ts ++ [(lb.length, la.length, lc.length)]) = (runS lb la lc (f.1 + 1, f.2.1 + 1, f.2.2 + 1) ts (lb.length, la.length, lc.length)).map (((lb[f.1]?).getD ⟨#[]⟩).data.toList ++ ·)
  | [], f, h1, h2, h3, e1, e2, _ => by
    simp only [List.nil_append, runI, runS]
    rw [three_lines (t := (lb.length, la.length, lc.length)) h1 h2 h3 (Nat.le_refl _) (Nat.le_refl _) (Nat.le_refl _) e1 e2]
    cases three (seg lb (f.1 + 1) lb.length) (seg la (f.2.1 + 1) la.length) (seg lc (f.2.2 + 1) lc.length) <;> simp
  | t :: ts, f, h1, h2, h3, e1, e2, hs => by
    obtain ⟨s1, s2, s3, k1, k2, k3, g1, g2, hr⟩ := hs
    simp only at s1 s2 s3
    have ih := run_same ts t k1 k2 k3 g1 g2 hr
    rw [List.cons_append, runI, runS, three_lines (t := t) (by omega) (by omega) (by omega) (by omega) (by omega) (by omega) e1 e2, ih]
    simp only
    cases three (seg lb (f.1 + 1) t.1) (seg la (f.2.1 + 1) t.2.1) (seg lc (f.2.2 + 1) t.2.2) with
    | none => rfl
    | some s =>
      simp only [Option.map_some]
      cases runS lb la lc (t.1 + 1, t.2.1 + 1, t.2.2 + 1) ts (lb.length, la.length, lc.length) <;> simp
theorem run_start {lb la lc : List ByteArray} (ts : List Pl) (hs : Stands lb la lc (0, 0, 0) ts) :
    runI lb la lc (0, 0, 0) (ts ++ [(lb.length, la.length, lc.length)]) = runS lb la lc (0, 0, 0) ts (lb.length, la.length, lc.length) := by
  cases ts with
  | nil =>
    simp only [List.nil_append, runI, runS]
    cases three (seg lb 0 lb.length) (seg la 0 la.length) (seg lc 0 lc.length) <;> simp
  | cons t ts =>
    obtain ⟨s1, s2, s3, k1, k2, k3, g1, g2, hr⟩ := hs
    have ih := run_same ts t k1 k2 k3 g1 g2 hr
    rw [List.cons_append, runI, runS, ih]
    cases three (seg lb 0 t.1) (seg la 0 t.2.1) (seg lc 0 t.2.2) with
    | none => rfl
    | some s =>
      simp only
      cases runS lb la lc (t.1 + 1, t.2.1 + 1, t.2.2 + 1) ts (lb.length, la.length, lc.length) <;> simp

/-- Pairs of equal lines, ascending from two places on. -/
def Asc2 (ss tt : List ByteArray) : Nat → Nat → List (Nat × Nat) → Prop
  | _, _, [] => True
  | i, j, p :: ps => i ≤ p.1 ∧ j ≤ p.2 ∧ p.1 < ss.length ∧ p.2 < tt.length ∧ ss[p.1]? = tt[p.2]? ∧ Asc2 ss tt (p.1 + 1) (p.2 + 1) ps
theorem Comm.asc {ss tt : List ByteArray} : ∀ {ps : List (Nat × Nat)} {i j : Nat}, Comm ss.length tt.length (eqL ss tt) i j ps → Asc2 ss tt i j ps
  | [], _, _, _ => trivial
  | p :: ps, i, j, h => by
    have hf := h.2.2.2.1
    refine ⟨hf.ix, hf.jy, hf.xm, hf.yn, ?_, Comm.asc h.2.2.2.2⟩
    have := hf.fits.1
    unfold eqL at this
    simpa using this
theorem CommT.asc {ss tt : List ByteArray} {ps : List (Nat × Nat)} (h : CommT ss tt ps) : Asc2 ss tt 0 0 ps := by
  rcases h with ⟨_, _, h⟩ | ⟨_, rfl⟩
  · exact h.asc
  · trivial

/-- The place that a place has in the other list. -/
def withP : List (Nat × Nat) → Nat → Option Nat
  | [], _ => none
  | p :: ps, i => if p.1 = i then some p.2 else withP ps i
/-- The places of the lines that are in both lists. -/
def placesP (pa pb : List (Nat × Nat)) : List Pl := pa.filterMap fun p => (withP pb p.1).map fun y => (p.1, p.2, y)

theorem withP_lt {ss tt : List ByteArray} : ∀ {ps : List (Nat × Nat)} {i j n : Nat}, Asc2 ss tt i j ps → n < i → withP ps n = none
  | [], _, _, _, _, _ => rfl
  | p :: ps, i, j, n, h, hn => by
    have h1 := h.1
    rw [withP, if_neg (by omega)]
    exact withP_lt h.2.2.2.2.2 (by omega)
theorem withP_some {ss tt : List ByteArray} : ∀ {ps : List (Nat × Nat)} {i j n y : Nat}, Asc2 ss tt i j ps → withP ps n = some y → j ≤ y ∧ y < tt.length ∧ n < ss.length ∧ ss[n]? = tt[y]? 
  | [], _, _, _, _, _, h => by simp [withP] at h
  | p :: ps, i, j, n, y, h, hw => by
    rw [withP] at hw
    obtain ⟨h1, h2, h3, h4, h5, h6⟩ := h
    split at hw
    · rename_i e
      cases hw
      subst e
      exact ⟨h2, h4, h3, h5⟩
    · obtain ⟨k1, k2, k3, k4⟩ := withP_some h6 hw
      exact ⟨by omega, k2, k3, k4⟩
theorem withP_mono {ss tt : List ByteArray} : ∀ {ps : List (Nat × Nat)} {i j n n' y y' : Nat}, Asc2 ss tt i j ps → withP ps n = some y → withP ps n' = some y' → n < n' → y < y'
  | [], _, _, _, _, _, _, _, h, _, _ => by simp [withP] at h
  | p :: ps, i, j, n, n', y, y', h, hw, hw', hlt => by
    rw [withP] at hw hw'
    have hr := h.2.2.2.2.2
    split at hw
    · rename_i e
      cases hw
      rw [if_neg (by omega)] at hw'
      have := (withP_some hr hw').1
      omega
    · split at hw'
      · rename_i e'
        rw [withP_lt hr (by omega)] at hw
        cases hw
      · exact withP_mono hr hw hw' hlt
theorem Stands.mono {lb la lc : List ByteArray} : ∀ {ts : List Pl} {f f' : Pl}, Stands lb la lc f' ts → f.1 ≤ f'.1 → f.2.1 ≤ f'.2.1 → f.2.2 ≤ f'.2.2 → Stands lb la lc f ts
  | [], _, _, _, _, _, _ => trivial
  | _ :: _, _, _, h, h1, h2, h3 => ⟨Nat.le_trans h1 h.1, Nat.le_trans h2 h.2.1, Nat.le_trans h3 h.2.2.1, h.2.2.2⟩
theorem stands_of {lb la lc : List ByteArray} {pb : List (Nat × Nat)} (hb : Asc2 lb lc 0 0 pb) : ∀ {pa : List (Nat × Nat)} {i j k : Nat}, Asc2 lb la i j pa → (∀ n y, i ≤ n → withP pb n = some y → k ≤ y) → Stands lb la lc (i, j, k) (placesP pa pb)
  | [], _, _, _, _, _ => trivial
  | p :: ps, i, j, k, h, H => by
    obtain ⟨h1, h2, h3, h4, h5, h6⟩ := h
    unfold placesP
    rw [List.filterMap_cons]
    cases hw : withP pb p.1 with
    | none =>
      simp only [Option.map_none]
      have ih := stands_of hb (k := k) h6 (fun n y hn hy => H n y (by omega) hy)
      exact ih.mono (by simp; omega) (by simp; omega) (Nat.le_refl _)
    | some y =>
      simp only [Option.map_some]
      obtain ⟨k1, k2, k3, k4⟩ := withP_some hb hw
      have ih := stands_of hb (k := y + 1) h6 (fun n y' hn hy => withP_mono hb hw hy (by omega))
      exact ⟨h1, h2, H p.1 y h1 hw, h3, h4, k2, h5, k4, ih⟩
theorem stands_all {lb la lc : List ByteArray} {pa pb : List (Nat × Nat)} (ha : CommT lb la pa) (hb : CommT lb lc pb) : Stands lb la lc (0, 0, 0) (placesP pa pb) :=
  stands_of hb.asc ha.asc (fun _ _ _ _ => Nat.zero_le _)

/-- What merging gives. -/
def mergeL (lb la lc : List ByteArray) (pa pb : List (Nat × Nat)) : Option (List UInt8) := runI lb la lc (0, 0, 0) (placesP pa pb ++ [(lb.length, la.length, lc.length)])
theorem mergeL_spec {lb la lc : List ByteArray} {pa pb : List (Nat × Nat)} (ha : CommT lb la pa) (hb : CommT lb lc pb) : mergeL lb la lc pa pb = runS lb la lc (0, 0, 0) (placesP pa pb) (lb.length, la.length, lc.length) :=
  run_start _ (stands_all ha hb)
theorem placesP_len (pa pb : List (Nat × Nat)) : (placesP pa pb).length ≤ pa.length := List.length_filterMap_le _ _
end Go.Proofs.Ytogefpbmchnaaaa
