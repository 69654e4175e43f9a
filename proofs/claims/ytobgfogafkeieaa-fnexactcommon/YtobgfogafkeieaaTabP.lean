/-
  The table of lengths of longest common lists, and the least of the longest lists: plain. What is equal is told by E : a place here, a place there.
-/
import Derived.WalkKit
namespace Go.Proofs.Ytobgfogafkeieaa

/-- Of the last q places, with one place more on the other side; f is the row below. -/
def tabIn (f : Nat → Nat) (e : Nat → Bool) : Nat → Nat
  | 0 => 0
  | q + 1 => if e q = true then f q + 1 else max (f (q + 1)) (tabIn f e q)
def tab (E : Nat → Nat → Bool) : Nat → Nat → Nat
  | 0 => fun _ => 0
  | p + 1 => tabIn (tab E p) (E p)
theorem tab_step (E : Nat → Nat → Bool) (p q : Nat) : tab E (p + 1) (q + 1) = if E p q = true then tab E p q + 1 else max (tab E p (q + 1)) (tab E (p + 1) q) := rfl
theorem tab_z (E : Nat → Nat → Bool) (p : Nat) : tab E p 0 = 0 := by cases p <;> rfl

theorem tab_up1 {E : Nat → Nat → Bool} {p : Nat} (h : ∀ q, tab E p q ≤ tab E p (q + 1)) : ∀ q, tab E (p + 1) q ≤ tab E p q + 1
  | 0 => by simp [tab_z]
  | q + 1 => by
    have h1 := tab_up1 h q
    have h2 := h q
    rw [tab_step]
    split <;> omega
theorem tab_up2 {E : Nat → Nat → Bool} {p : Nat} (h : ∀ q, tab E p (q + 1) ≤ tab E p q + 1) : ∀ q, tab E p q ≤ tab E (p + 1) q
  | 0 => by simp [tab_z]
  | q + 1 => by
    have h2 := h q
    rw [tab_step]
    split <;> omega
theorem tab_facts (E : Nat → Nat → Bool) : ∀ p, (∀ q, tab E p (q + 1) ≤ tab E p q + 1) ∧ (∀ q, tab E p q ≤ tab E p (q + 1))
  | 0 => ⟨fun q => Nat.zero_le _, fun q => Nat.le_refl _⟩
  | p + 1 => by
    obtain ⟨h1, h2⟩ := tab_facts E p
    refine ⟨fun q => ?_, fun q => ?_⟩
    · have a1 := tab_up2 h1 q
      have a2 := h1 q
      rw [tab_step]
      split <;> omega
    · have a1 := tab_up1 h2 q
      rw [tab_step]
      split <;> omega
theorem tab_le2 (E : Nat → Nat → Bool) (p : Nat) : ∀ q, tab E p q ≤ q
  | 0 => by rw [tab_z]; exact Nat.le_refl _
  | q + 1 => by have := (tab_facts E p).1 q; have := tab_le2 E p q; omega
theorem tab_le1 (E : Nat → Nat → Bool) : ∀ p q, tab E p q ≤ p
  | 0, q => Nat.le_refl _
  | p + 1, q => by have := tab_up1 (tab_facts E p).2 q; have := tab_le1 E p q; omega

/-- The length of a longest list from two places on. -/
def lcs (m n : Nat) (E : Nat → Nat → Bool) (i j : Nat) : Nat := tab (fun p q => E (m - 1 - p) (n - 1 - q)) (m - i) (n - j)
theorem lcs_m (m n : Nat) (E : Nat → Nat → Bool) (j : Nat) : lcs m n E m j = 0 := by rw [lcs, Nat.sub_self]; rfl
theorem lcs_n (m n : Nat) (E : Nat → Nat → Bool) (i : Nat) : lcs m n E i n = 0 := by rw [lcs, Nat.sub_self, tab_z]
theorem lcs_step {m n : Nat} (E : Nat → Nat → Bool) {i j : Nat} (hi : i < m) (hj : j < n) :
    lcs m n E i j = if E i j = true then lcs m n E (i + 1) (j + 1) + 1 else max (lcs m n E (i + 1) j) (lcs m n E i (j + 1)) := by
  unfold lcs
  rw [show m - i = (m - (i + 1)) + 1 by omega, show n - j = (n - (j + 1)) + 1 by omega, tab_step]
  rw [show m - 1 - (m - (i + 1)) = i by omega, show n - 1 - (n - (j + 1)) = j by omega]
theorem lcs_le1 (m n : Nat) (E : Nat → Nat → Bool) (i j : Nat) : lcs m n E i j ≤ m - i := tab_le1 _ _ _
theorem lcs_le2 (m n : Nat) (E : Nat → Nat → Bool) (i j : Nat) : lcs m n E i j ≤ n - j := tab_le2 _ _ _
theorem lcs_dn {m n : Nat} (E : Nat → Nat → Bool) {i : Nat} (j : Nat) (hi : i < m) : lcs m n E (i + 1) j ≤ lcs m n E i j := by
  unfold lcs
  rw [show m - i = (m - (i + 1)) + 1 by omega]
  exact tab_up2 (tab_facts _ _).1 _
theorem lcs_rt {m n : Nat} (E : Nat → Nat → Bool) (i : Nat) {j : Nat} (hj : j < n) : lcs m n E i (j + 1) ≤ lcs m n E i j := by
  unfold lcs
  rw [show n - j = (n - (j + 1)) + 1 by omega]
  exact (tab_facts _ _).2 _
theorem lcs_dn1 {m n : Nat} (E : Nat → Nat → Bool) {i : Nat} (j : Nat) (hi : i < m) : lcs m n E i j ≤ lcs m n E (i + 1) j + 1 := by
  unfold lcs
  rw [show m - i = (m - (i + 1)) + 1 by omega]
  exact tab_up1 (tab_facts _ _).2 _
theorem lcs_rt1 {m n : Nat} (E : Nat → Nat → Bool) (i : Nat) {j : Nat} (hj : j < n) : lcs m n E i j ≤ lcs m n E i (j + 1) + 1 := by
  unfold lcs
  rw [show n - j = (n - (j + 1)) + 1 by omega]
  exact (tab_facts _ _).1 _
/-- As the specification fills its table. -/
theorem lcs_max {m n : Nat} (E : Nat → Nat → Bool) {i j : Nat} (hi : i < m) (hj : j < n) (h : E i j = true) :
    lcs m n E i j = lcs m n E (i + 1) (j + 1) + 1 ∧ lcs m n E (i + 1) j ≤ lcs m n E (i + 1) (j + 1) + 1 ∧ lcs m n E i (j + 1) ≤ lcs m n E (i + 1) (j + 1) + 1 := by
  refine ⟨?_, lcs_rt1 E (i + 1) hj, lcs_dn1 E (j + 1) hi⟩
  rw [lcs_step E hi hj, if_pos h]

/-- A pair with which a longest list begins. -/
def Fits (m n : Nat) (E : Nat → Nat → Bool) (k x y : Nat) : Prop := E x y = true ∧ lcs m n E (x + 1) (y + 1) + 1 = k
/-- The first pair. -/
structure Fst (m n : Nat) (E : Nat → Nat → Bool) (i j x y : Nat) : Prop where
  ix : i ≤ x
  xm : x < m
  jy : j ≤ y
  yn : y < n
  fits : Fits m n E (lcs m n E i j) x y
  row : ∀ x' y', i ≤ x' → x' < x → j ≤ y' → y' < n → ¬ Fits m n E (lcs m n E i j) x' y'
  col : ∀ y', j ≤ y' → y' < y → ¬ Fits m n E (lcs m n E i j) x y'

theorem least (P : Nat → Prop) : ∀ n, P n → ∃ k, P k ∧ ∀ j, j < k → ¬ P j := by
  intro n
  induction n using Nat.strongRecOn with
  | ind n ih =>
    intro h
    by_cases hx : ∃ j, j < n ∧ P j
    · obtain ⟨j, hj, hp⟩ := hx
      exact ih j hj hp
    · exact ⟨n, h, fun j hj hp => hx ⟨j, hj, hp⟩⟩

theorem some_fits {m n : Nat} (E : Nat → Nat → Bool) : ∀ (s i j : Nat), (m - i) + (n - j) ≤ s → i ≤ m → j ≤ n → 0 < lcs m n E i j → ∃ x y, i ≤ x ∧ x < m ∧ j ≤ y ∧ y < n ∧ Fits m n E (lcs m n E i j) x y := by
  intro s
  induction s with
  | zero =>
    intro i j hs hi hj h
    obtain rfl : i = m := by omega
    rw [lcs_m] at h; omega
  | succ s ih =>
    intro i j hs hi hj h
    have him : i < m := by
      rcases Nat.lt_or_ge i m with h' | h'
      · exact h'
      · obtain rfl : i = m := by omega
        rw [lcs_m] at h; omega
    have hjn : j < n := by
      rcases Nat.lt_or_ge j n with h' | h'
      · exact h'
      · obtain rfl : j = n := by omega
        rw [lcs_n] at h; omega
    by_cases he : E i j = true
    · exact ⟨i, j, Nat.le_refl _, him, Nat.le_refl _, hjn, he, (lcs_max E him hjn he).1.symm⟩
    · have hst := lcs_step E him hjn
      rw [if_neg he] at hst
      rcases Nat.le_total (lcs m n E (i + 1) j) (lcs m n E i (j + 1)) with hle | hle
      · have e : lcs m n E i j = lcs m n E i (j + 1) := by omega
        obtain ⟨x, y, h1, h2, h3, h4, h5⟩ := ih i (j + 1) (by omega) hi (by omega) (by omega)
        exact ⟨x, y, h1, h2, by omega, h4, by rw [e]; exact h5⟩
      · have e : lcs m n E i j = lcs m n E (i + 1) j := by omega
        obtain ⟨x, y, h1, h2, h3, h4, h5⟩ := ih (i + 1) j (by omega) (by omega) hj (by omega)
        exact ⟨x, y, by omega, h2, h3, h4, by rw [e]; exact h5⟩

theorem exists_fst {m n : Nat} (E : Nat → Nat → Bool) {i j : Nat} (hi : i ≤ m) (hj : j ≤ n) (h : 0 < lcs m n E i j) : ∃ x y, Fst m n E i j x y := by
  obtain ⟨x0, y0, a1, a2, a3, a4, a5⟩ := some_fits E _ i j (Nat.le_refl _) hi hj h
  obtain ⟨x, ⟨b1, b2, y1, b3, b4, b5⟩, bl⟩ := least (fun x => i ≤ x ∧ x < m ∧ ∃ y, j ≤ y ∧ y < n ∧ Fits m n E (lcs m n E i j) x y) x0 ⟨a1, a2, y0, a3, a4, a5⟩
  obtain ⟨y, ⟨c1, c2, c3⟩, cl⟩ := least (fun y => j ≤ y ∧ y < n ∧ Fits m n E (lcs m n E i j) x y) y1 ⟨b3, b4, b5⟩
  exact ⟨x, y, b1, b2, c1, c2, c3, fun x' y' h1 h2 h3 h4 h5 => bl x' h2 ⟨h1, by omega, y', h3, h4, h5⟩, fun y' h1 h2 h5 => cl y' h2 ⟨h1, by omega, h5⟩⟩

/-- The least of the longest lists from two places on. -/
def Comm (m n : Nat) (E : Nat → Nat → Bool) : Nat → Nat → List (Nat × Nat) → Prop
  | i, j, [] => i ≤ m ∧ j ≤ n ∧ lcs m n E i j = 0
  | i, j, p :: ps => i ≤ m ∧ j ≤ n ∧ 0 < lcs m n E i j ∧ Fst m n E i j p.1 p.2 ∧ Comm m n E (p.1 + 1) (p.2 + 1) ps

theorem exists_comm {m n : Nat} (E : Nat → Nat → Bool) : ∀ (k i j : Nat), lcs m n E i j = k → i ≤ m → j ≤ n → ∃ ps, Comm m n E i j ps
  | 0, i, j, h, hi, hj => ⟨[], hi, hj, h⟩
  | k + 1, i, j, h, hi, hj => by
    obtain ⟨x, y, hf⟩ := exists_fst E hi hj (by omega)
    have hx := hf.fits.2
    obtain ⟨ps, hp⟩ := exists_comm (m := m) (n := n) E k (x + 1) (y + 1) (by omega) (by have := hf.xm; omega) (by have := hf.yn; omega)
    exact ⟨(x, y) :: ps, hi, hj, by omega, hf, hp⟩
theorem Comm.im {m n : Nat} {E : Nat → Nat → Bool} {i j : Nat} {ps : List (Nat × Nat)} (h : Comm m n E i j ps) : i ≤ m ∧ j ≤ n := by
  cases ps with
  | nil => exact ⟨h.1, h.2.1⟩
  | cons p ps => exact ⟨h.1, h.2.1⟩
theorem Comm.zero {m n : Nat} {E : Nat → Nat → Bool} {i j : Nat} {ps : List (Nat × Nat)} (h : Comm m n E i j ps) (h0 : lcs m n E i j = 0) : ps = [] := by
  cases ps with
  | nil => rfl
  | cons p ps => have := h.2.2.1; omega
theorem Comm.pos {m n : Nat} {E : Nat → Nat → Bool} {i j : Nat} {ps : List (Nat × Nat)} (h : Comm m n E i j ps) (h0 : 0 < lcs m n E i j) : ∃ x y r, ps = (x, y) :: r ∧ Fst m n E i j x y ∧ Comm m n E (x + 1) (y + 1) r := by
  cases ps with
  | nil => have := h.2.2; omega
  | cons p ps => exact ⟨p.1, p.2, ps, rfl, h.2.2.2.1, h.2.2.2.2⟩
theorem Comm.len {m n : Nat} {E : Nat → Nat → Bool} : ∀ {ps : List (Nat × Nat)} {i j : Nat}, Comm m n E i j ps → ps.length = lcs m n E i j
  | [], _, _, h => h.2.2.symm
  | p :: ps, i, j, h => by
    have h1 := Comm.len h.2.2.2.2
    have h2 := h.2.2.2.1.fits.2
    simp only [List.length_cons]
    omega
end Go.Proofs.Ytobgfogafkeieaa
