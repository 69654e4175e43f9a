/-
  The table from the front and the table from the back have one length: plain.
-/
import Derived.Test.YtamhfndmiphhfaaTabP
namespace Go.Proofs.Ytamhfndmiphhfaa
set_option linter.unusedVariables false

/-- A list of equal places that goes down. -/
def Down (E : Nat → Nat → Bool) : Nat → Nat → List (Nat × Nat) → Prop
  | _, _, [] => True
  | p, q, c :: r => c.1 < p ∧ c.2 < q ∧ E c.1 c.2 = true ∧ Down E c.1 c.2 r
/-- One that goes up. -/
def Up (m n : Nat) (E : Nat → Nat → Bool) : Nat → Nat → List (Nat × Nat) → Prop
  | _, _, [] => True
  | i, j, c :: r => i ≤ c.1 ∧ c.1 < m ∧ j ≤ c.2 ∧ c.2 < n ∧ E c.1 c.2 = true ∧ Up m n E (c.1 + 1) (c.2 + 1) r
theorem Down.mono {E : Nat → Nat → Bool} {p q p' q' : Nat} {l : List (Nat × Nat)} (h : Down E p q l) (hp : p ≤ p') (hq : q ≤ q') : Down E p' q' l := by
  cases l with
  | nil => trivial
  | cons c r => exact ⟨Nat.lt_of_lt_of_le h.1 hp, Nat.lt_of_lt_of_le h.2.1 hq, h.2.2⟩
theorem Down.congr {E F : Nat → Nat → Bool} : ∀ {l : List (Nat × Nat)} {p q : Nat}, (∀ x y, x < p → y < q → E x y = F x y) → Down E p q l → Down F p q l
  | [], _, _, _, _ => trivial
  | c :: r, p, q, he, h => ⟨h.1, h.2.1, (he _ _ h.1 h.2.1) ▸ h.2.2.1, Down.congr (fun x y hx hy => he x y (Nat.lt_trans hx h.1) (Nat.lt_trans hy h.2.1)) h.2.2.2⟩
theorem Up.mono {m n : Nat} {E : Nat → Nat → Bool} {i j i' j' : Nat} {l : List (Nat × Nat)} (h : Up m n E i j l) (hi : i' ≤ i) (hj : j' ≤ j) : Up m n E i' j' l := by
  cases l with
  | nil => trivial
  | cons c r => exact ⟨Nat.le_trans hi h.1, h.2.1, Nat.le_trans hj h.2.2.1, h.2.2.2⟩
theorem exists_down (E : Nat → Nat → Bool) : ∀ s p q, p + q ≤ s → ∃ l, Down E p q l ∧ l.length = tab E p q := by
  intro s
  induction s with
  | zero =>
    intro p q h
    obtain rfl : p = 0 := by omega
    exact ⟨[], trivial, rfl⟩
  | succ s ih =>
    intro p q h
    cases p with
    | zero => exact ⟨[], trivial, rfl⟩
    | succ p =>
      cases q with
      | zero => exact ⟨[], trivial, by rw [tab_z]; rfl⟩
      | succ q =>
        rw [tab_step]
        split
        · rename_i he
          obtain ⟨l, h1, h2⟩ := ih p q (by omega)
          exact ⟨(p, q) :: l, ⟨by simp, by simp, he, h1⟩, by simp [h2]⟩
        · rcases Nat.le_total (tab E p (q + 1)) (tab E (p + 1) q) with hle | hle
          · obtain ⟨l, h1, h2⟩ := ih (p + 1) q (by omega)
            exact ⟨l, h1.mono (Nat.le_refl _) (Nat.le_succ _), by omega⟩
          · obtain ⟨l, h1, h2⟩ := ih p (q + 1) (by omega)
            exact ⟨l, h1.mono (Nat.le_succ _) (Nat.le_refl _), by omega⟩
theorem down_le (E : Nat → Nat → Bool) : ∀ s p q l, p + q ≤ s → Down E p q l → l.length ≤ tab E p q := by
  intro s
  induction s with
  | zero =>
    intro p q l h hd
    cases l with
    | nil => exact Nat.zero_le _
    | cons c r => have := hd.1; omega
  | succ s ih =>
    intro p q l h hd
    cases l with
    | nil => exact Nat.zero_le _
    | cons c r =>
      obtain ⟨h1, h2, h3, h4⟩ := hd
      obtain ⟨p, rfl⟩ : ∃ k, p = k + 1 := ⟨p - 1, by omega⟩
      obtain ⟨q, rfl⟩ : ∃ k, q = k + 1 := ⟨q - 1, by omega⟩
      by_cases hx : c.1 < p
      · have := ih p (q + 1) (c :: r) (by omega) ⟨hx, h2, h3, h4⟩
        have := tab_up2 (tab_facts E p).1 (q + 1)
        omega
      · by_cases hy : c.2 < q
        · have := ih (p + 1) q (c :: r) (by omega) ⟨h1, hy, h3, h4⟩
          have := (tab_facts E (p + 1)).2 q
          omega
        · have e1 : c.1 = p := by omega
          have e2 : c.2 = q := by omega
          rw [e1, e2] at h3 h4
          have := ih p q r (by omega) h4
          rw [tab_step, if_pos h3]
          simp only [List.length_cons]
          omega
theorem down_up {m n : Nat} {E : Nat → Nat → Bool} : ∀ {l : List (Nat × Nat)} {p q : Nat} {acc : List (Nat × Nat)}, p ≤ m → q ≤ n → Down E p q l → Up m n E p q acc → ∃ l', Up m n E 0 0 l' ∧ l'.length = l.length + acc.length
  | [], p, q, acc, _, _, _, ha => ⟨acc, ha.mono (Nat.zero_le _) (Nat.zero_le _), by simp⟩
  | c :: r, p, q, acc, hp, hq, h, ha => by
    obtain ⟨l', h1, h2⟩ := down_up (l := r) (p := c.1) (q := c.2) (acc := c :: acc) (by have := h.1; omega) (by have := h.2.1; omega) h.2.2.2
      ⟨Nat.le_refl _, by have := h.1; omega, Nat.le_refl _, by have := h.2.1; omega, h.2.2.1, ha.mono h.1 h.2.1⟩
    exact ⟨l', h1, by simp only [List.length_cons] at h2 ⊢; omega⟩
theorem up_down {m n : Nat} {E : Nat → Nat → Bool} : ∀ {l : List (Nat × Nat)} {i j : Nat}, Up m n E i j l → Down (fun p q => E (m - 1 - p) (n - 1 - q)) (m - i) (n - j) (l.map fun c => (m - 1 - c.1, n - 1 - c.2))
  | [], _, _, _ => trivial
  | c :: r, i, j, h => by
    obtain ⟨h1, h2, h3, h4, h5, h6⟩ := h
    have ih := up_down h6
    refine ⟨by simp only; omega, by simp only; omega, ?_, ?_⟩
    · simp only
      rw [show m - 1 - (m - 1 - c.1) = c.1 by omega, show n - 1 - (n - 1 - c.2) = c.2 by omega]; exact h5
    · simp only
      rw [show m - 1 - c.1 = m - (c.1 + 1) by omega, show n - 1 - c.2 = n - (c.2 + 1) by omega]; exact ih
theorem tab_rev_le (m n : Nat) (E : Nat → Nat → Bool) : tab E m n ≤ tab (fun p q => E (m - 1 - p) (n - 1 - q)) m n := by
  obtain ⟨l, h1, h2⟩ := exists_down E _ m n (Nat.le_refl _)
  obtain ⟨l', h3, h4⟩ := down_up (acc := []) (Nat.le_refl m) (Nat.le_refl n) h1 trivial
  have h5 := up_down h3
  have := down_le _ _ _ _ _ (Nat.le_refl _) h5
  simp at this h4
  omega
theorem tab_congr (m n : Nat) (E F : Nat → Nat → Bool) (h : ∀ x y, x < m → y < n → E x y = F x y) : tab E m n ≤ tab F m n := by
  obtain ⟨l, h1, h2⟩ := exists_down E _ m n (Nat.le_refl _)
  have := down_le _ _ _ _ _ (Nat.le_refl _) (Down.congr h h1)
  omega
/-- The longest list is as long, from the front and from the back. -/
theorem tab_lcs (m n : Nat) (E : Nat → Nat → Bool) : tab E m n = lcs m n E 0 0 := by
  unfold lcs
  have h1 := tab_rev_le m n E
  have h2 := tab_rev_le m n (fun p q => E (m - 1 - p) (n - 1 - q))
  have h3 := tab_congr m n (fun p q => E (m - 1 - (m - 1 - p)) (n - 1 - (n - 1 - q))) E (fun x y hx hy => by rw [show m - 1 - (m - 1 - x) = x by omega, show n - 1 - (n - 1 - y) = y by omega])
  simp only [Nat.sub_zero]
  omega
/-- The pairs ascend, and are pairs of equal lines. -/
theorem Comm.up {m n : Nat} {E : Nat → Nat → Bool} : ∀ {ps : List (Nat × Nat)} {i j : Nat}, Comm m n E i j ps → Up m n E i j ps
  | [], _, _, _ => trivial
  | c :: r, i, j, h => ⟨h.2.2.2.1.ix, h.2.2.2.1.xm, h.2.2.2.1.jy, h.2.2.2.1.yn, h.2.2.2.1.fits.1, Comm.up h.2.2.2.2⟩
theorem Up.at {m n : Nat} {E : Nat → Nat → Bool} : ∀ {ps : List (Nat × Nat)} {i j : Nat}, Up m n E i j ps → ∀ k (h : k < ps.length), i ≤ ps[k].1 ∧ ps[k].1 < m ∧ j ≤ ps[k].2 ∧ ps[k].2 < n ∧ E ps[k].1 ps[k].2 = true
  | [], _, _, _, k, h => by simp at h
  | c :: r, i, j, h, 0, _ => ⟨h.1, h.2.1, h.2.2.1, h.2.2.2.1, h.2.2.2.2.1⟩
  | c :: r, i, j, h, k + 1, hk => by
    have := Up.at h.2.2.2.2.2 k (by simpa using hk)
    have h1 := h.1
    have h2 := h.2.2.1
    simp only [List.getElem_cons_succ]
    exact ⟨by omega, this.2.1, by omega, this.2.2.2⟩
theorem Up.asc {m n : Nat} {E : Nat → Nat → Bool} : ∀ {ps : List (Nat × Nat)} {i j : Nat}, Up m n E i j ps → ∀ k (h : k + 1 < ps.length), ps[k].1 < ps[k + 1].1 ∧ ps[k].2 < ps[k + 1].2
  | [], _, _, _, k, h => by simp at h
  | c :: r, i, j, h, 0, hk => by
    have := Up.at h.2.2.2.2.2 0 (by simpa using hk)
    simp only [List.getElem_cons_succ, List.getElem_cons_zero]
    omega
  | c :: r, i, j, h, k + 1, hk => by
    have := Up.asc h.2.2.2.2.2 k (by simpa using hk)
    simpa only [List.getElem_cons_succ] using this
end Go.Proofs.Ytamhfndmiphhfaa
