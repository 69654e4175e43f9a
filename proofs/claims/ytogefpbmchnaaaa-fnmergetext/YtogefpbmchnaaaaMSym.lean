/-
  Merging texts does not hang on who is first; unchanged sides: plain.
-/
import Derived.Test.YtogefpbmchnaaaaMText
namespace Go.Proofs.Ytogefpbmchnaaaa
open Go.RowKit

theorem three_comm (x y z : List UInt8) : three x y z = three x z y := by
  unfold three
  by_cases h1 : y = x
  · by_cases h2 : z = x
    · rw [if_pos h1, if_pos h2, h1, h2]
    · rw [if_pos h1, if_neg h2, if_pos (.inl h1)]
  · by_cases h2 : z = x
    · rw [if_neg h1, if_pos (.inl h2), if_pos h2]
    · by_cases h3 : z = y
      · rw [if_neg h1, if_neg h2, if_pos (.inr h3), if_pos (.inr h3.symm), h3]
      · rw [if_neg h1, if_neg h2, if_neg (by rintro (h | h) <;> contradiction), if_neg (by rintro (h | h); exact h1 h; exact h3 h.symm)]
theorem three_base (x z : List UInt8) : three x x z = some z := by unfold three; rw [if_pos rfl]
theorem three_self (x y : List UInt8) : three x y y = some y := by
  unfold three
  split
  · rfl
  · rw [if_pos (.inr rfl)]

/-- Line by line of base. -/
def spN (lb la lc : List ByteArray) (pa pb : List (Nat × Nat)) : Nat → Nat → Nat → Nat → Nat → Option (List UInt8)
  | 0, n, i, j, k => three (seg lb i n) (seg la j la.length) (seg lc k lc.length)
  | f + 1, n, i, j, k => match withP pa n, withP pb n with
    | some x, some y => match three (seg lb i n) (seg la j x) (seg lc k y) with
      | none => none
      | some s => (spN lb la lc pa pb f (n + 1) (n + 1) (x + 1) (y + 1)).map ((s ++ ((lb[n]?).getD ⟨#[]⟩).data.toList) ++ ·)
    | _, _ => spN lb la lc pa pb f (n + 1) i j k

theorem spN_comm (lb la lc : List ByteArray) (pa pb : List (Nat × Nat)) : ∀ (f n i j k : Nat), spN lb la lc pa pb f n i j k = spN lb lc la pb pa f n i k j
  | 0, n, i, j, k => three_comm _ _ _
  | f + 1, n, i, j, k => by
    rw [spN, spN]
    cases hx : withP pa n with
    | none =>
      cases hy : withP pb n with
      | none => exact spN_comm lb la lc pa pb f (n + 1) i j k
      | some y => exact spN_comm lb la lc pa pb f (n + 1) i j k
    | some x =>
      cases hy : withP pb n with
      | none => exact spN_comm lb la lc pa pb f (n + 1) i j k
      | some y =>
        simp only
        rw [three_comm, spN_comm lb la lc pa pb f]

theorem At.sp {lb la lc : List ByteArray} {pa pb : List (Nat × Nat)} (hb : Asc2 lb lc 0 0 pb) : ∀ (f n i j k j1 : Nat) (out : List UInt8) (R : List (Nat × Nat)), At lb la lc pa pb n i j k out R j1 → n + f = lb.length →
    runS lb la lc (0, 0, 0) (placesP pa pb) (lb.length, la.length, lc.length) = (spN lb la lc pa pb f n i j k).map (out ++ ·)
  | 0, n, i, j, k, j1, out, R, h, hn => by
    have : n = lb.length := by omega
    subst this
    rw [h.ends]
    rfl
  | f + 1, n, i, j, k, j1, out, R, h, hn => by
    rw [spN]
    cases hx : withP pa n with
    | none => exact At.sp hb f (n + 1) i j k j1 out R (h.skipA hx) (by omega)
    | some x =>
      cases hy : withP pb n with
      | none =>
        obtain ⟨R', h'⟩ := h.skipB hx hy
        exact At.sp hb f (n + 1) i j k _ out R' h' (by omega)
      | some y =>
        obtain ⟨_, _, _, _, hno, hyes⟩ := h.takes hb hx hy
        simp only
        cases h3 : three (seg lb i n) (seg la j x) (seg lc k y) with
        | none => rw [hno h3]; rfl
        | some s =>
          obtain ⟨R', h'⟩ := hyes s h3
          rw [At.sp hb f (n + 1) (n + 1) (x + 1) (y + 1) _ _ R' h' (by omega)]
          simp only
          cases spN lb la lc pa pb f (n + 1) (n + 1) (x + 1) (y + 1) <;> simp

theorem mergeL_sp {lb la lc : List ByteArray} {pa pb : List (Nat × Nat)} (ha : CommT lb la pa) (hb : CommT lb lc pb) : mergeL lb la lc pa pb = spN lb la lc pa pb lb.length 0 0 0 0 := by
  rw [mergeL_spec ha hb, At.sp hb.asc lb.length 0 0 0 0 0 [] pa (At.start ha.asc) (by omega)]
  cases spN lb la lc pa pb lb.length 0 0 0 0 <;> simp
theorem mergeL_comm {lb la lc : List ByteArray} {pa pb : List (Nat × Nat)} (ha : CommT lb la pa) (hb : CommT lb lc pb) : mergeL lb la lc pa pb = mergeL lb lc la pb pa := by
  rw [mergeL_sp ha hb, mergeL_sp hb ha, spN_comm]

theorem seg_nil (ls : List ByteArray) (i : Nat) : seg ls i i = [] := by
  unfold seg
  rw [List.drop_of_length_le (by simp; omega)]
  rfl
theorem seg_split {ls : List ByteArray} {k y : Nat} (h1 : k ≤ y) (h2 : y < ls.length) : seg ls k ls.length = seg ls k y ++ (ls[y].data.toList ++ seg ls (y + 1) ls.length) := by
  obtain ⟨d, rfl⟩ : ∃ d, y = k + d := ⟨y - k, by omega⟩
  induction d generalizing k with
  | zero =>
    simp only [Nat.add_zero]
    rw [seg_nil, seg_cons (i := k) (j := ls.length) (by omega) (Nat.le_refl _)]
    rfl
  | succ d ih =>
    have := ih (k := k + 1) (by omega) (by omega)
    rw [seg_cons (by omega) (Nat.le_refl _), this, seg_cons (i := k) (j := k + (d + 1)) (by omega) (by omega)]
    simp only [show k + 1 + d = k + (d + 1) by omega, List.append_assoc]

/-- One side unchanged: the other comes out. -/
theorem spN_base {lb lc : List ByteArray} {pa pb : List (Nat × Nat)} (hb : Asc2 lb lc 0 0 pb) (hid : ∀ n, n < lb.length → withP pa n = some n) : ∀ (f n i k : Nat), n + f = lb.length → k ≤ lc.length → (∀ m y, n ≤ m → withP pb m = some y → k ≤ y) → spN lb lb lc pa pb f n i i k = some (seg lc k lc.length)
  | 0, n, i, k, hn, hk, _ => by
    have : n = lb.length := by omega
    subst this
    rw [spN, three_base]
  | f + 1, n, i, k, hn, hk, H => by
    rw [spN, hid n (by omega)]
    cases hy : withP pb n with
    | none => exact spN_base hb hid f (n + 1) i k (by omega) hk (fun m y hm => H m y (by omega))
    | some y =>
      obtain ⟨_, y2, y3, y4⟩ := withP_some hb hy
      have hky := H n y (Nat.le_refl _) hy
      simp only
      rw [three_base, spN_base hb hid f (n + 1) (n + 1) (y + 1) (by omega) (by omega) (fun m y' hm hy' => withP_mono hb hy hy' (by omega)), seg_split hky y2, y4, List.getElem?_eq_getElem y2]
      simp
/-- Both sides the same: that comes out. -/
theorem spN_same {lb la : List ByteArray} {pa : List (Nat × Nat)} (ha : Asc2 lb la 0 0 pa) : ∀ (f n i j : Nat), n + f = lb.length → j ≤ la.length → (∀ m y, n ≤ m → withP pa m = some y → j ≤ y) → spN lb la la pa pa f n i j j = some (seg la j la.length)
  | 0, n, i, j, hn, hk, _ => by rw [spN, three_self]
  | f + 1, n, i, j, hn, hk, H => by
    rw [spN]
    cases hy : withP pa n with
    | none => exact spN_same ha f (n + 1) i j (by omega) hk (fun m y hm => H m y (by omega))
    | some y =>
      obtain ⟨_, y2, y3, y4⟩ := withP_some ha hy
      have hky := H n y (Nat.le_refl _) hy
      simp only
      rw [three_self, spN_same ha f (n + 1) (n + 1) (y + 1) (by omega) (by omega) (fun m y' hm hy' => withP_mono ha hy hy' (by omega)), seg_split hky y2, y4, List.getElem?_eq_getElem y2]
      simp

/-- A list with itself. -/
theorem lcs_id {m : Nat} {E : Nat → Nat → Bool} (h : ∀ i, i < m → E i i = true) : ∀ (d i : Nat), i + d = m → lcs m m E i i = d
  | 0, i, hi => by
    have : i = m := by omega
    subst this
    exact lcs_m _ _ _ _
  | d + 1, i, hi => by rw [(lcs_max E (by omega) (by omega) (h i (by omega))).1, lcs_id h d (i + 1) (by omega)]
theorem comm_id {m : Nat} {E : Nat → Nat → Bool} (h : ∀ i, i < m → E i i = true) : ∀ (d i : Nat) (ps : List (Nat × Nat)), i + d = m → Comm m m E i i ps → ∀ n, i ≤ n → n < m → withP ps n = some n
  | 0, i, ps, hi, _, n, h1, h2 => by omega
  | d + 1, i, ps, hi, hc, n, h1, h2 => by
    have hl := lcs_id h (d + 1) i hi
    obtain ⟨x, y, r, rfl, hf, hr⟩ := hc.pos (by omega)
    have hfit : Fits m m E (lcs m m E i i) i i := ⟨h i (by omega), (lcs_max E (by omega) (by omega) (h i (by omega))).1.symm⟩
    have ex : i = x := by
      rcases Nat.lt_or_ge i x with h3 | h3
      · exact absurd hfit (hf.row i i (Nat.le_refl _) h3 (Nat.le_refl _) (by omega))
      · have := hf.ix; omega
    subst ex
    have ey : i = y := by
      rcases Nat.lt_or_ge i y with h3 | h3
      · exact absurd hfit (hf.col i (Nat.le_refl _) h3)
      · have := hf.jy; omega
    subst ey
    rw [withP]
    by_cases hn : i = n
    · rw [if_pos (by simpa using hn), hn]
    · rw [if_neg (by simpa using hn)]
      exact comm_id h d (i + 1) r (by omega) hr n (by omega) h2

theorem seg_all (s : ByteArray) : seg (linesB s) 0 (linesB s).length = s.data.toList := by
  rw [← catL_lines]
  unfold seg catL
  rw [List.take_length]
  rfl
theorem MText.sym {sb sa sc : ByteArray} {o : Option (List UInt8)} (h : MText sb sa sc o) : MText sb sc sa o := by
  rcases h with ⟨h1, h2, h3, pa, pb, ha, hb, rfl⟩ | ⟨h, rfl⟩
  · exact .inl ⟨h1, h3, h2, pb, pa, hb, ha, mergeL_comm ha hb⟩
  · exact .inr ⟨by omega, rfl⟩
theorem mtext_base {sb sc : ByteArray} (h1 : sb.size ≤ 1500) (h3 : sc.size ≤ 1500) : MText sb sb sc (some sc.data.toList) := by
  obtain ⟨pa, ha⟩ := exists_commT (linesB sb) (linesB sb)
  obtain ⟨pb, hb⟩ := exists_commT (linesB sb) (linesB sc)
  refine .inl ⟨h1, h1, h3, pa, pb, ha, hb, ?_⟩
  have hl := linesB_le sb
  have hid : ∀ n, n < (linesB sb).length → withP pa n = some n := fun n hn => by
    rcases ha with ⟨_, _, hc⟩ | ⟨hbig, _⟩
    · exact comm_id (fun i hi => (eqL_iff hi hi).2 rfl) (linesB sb).length 0 pa (by omega) hc n (Nat.zero_le _) hn
    · omega
  rw [mergeL_sp ha hb, spN_base hb.asc hid _ 0 0 0 (by omega) (Nat.zero_le _) (fun _ _ _ _ => Nat.zero_le _), seg_all]
theorem mtext_same {sb sa : ByteArray} (h1 : sb.size ≤ 1500) (h2 : sa.size ≤ 1500) : MText sb sa sa (some sa.data.toList) := by
  obtain ⟨pa, ha⟩ := exists_commT (linesB sb) (linesB sa)
  refine .inl ⟨h1, h2, h2, pa, pa, ha, ha, ?_⟩
  rw [mergeL_sp ha ha, spN_same ha.asc _ 0 0 0 (by omega) (Nat.zero_le _) (fun _ _ _ _ => Nat.zero_le _), seg_all]
theorem MText.big {sb sa sc : ByteArray} {o : Option (List UInt8)} (h : MText sb sa sc o) (hb : 1500 < sb.size ∨ 1500 < sa.size ∨ 1500 < sc.size) : o = none := by
  rcases h with ⟨h1, h2, h3, _⟩ | ⟨_, rfl⟩
  · omega
  · rfl
end Go.Proofs.Ytogefpbmchnaaaa
