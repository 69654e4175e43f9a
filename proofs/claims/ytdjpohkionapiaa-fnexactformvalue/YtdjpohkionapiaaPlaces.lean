/-
  Plain: the tree at each place.
-/
import Derived.Test.YtdjpohkionapiaaSpecShort
import Derived.Test.YtdjpohkionapiaaFormImpl
namespace Go.Proofs.Ytdjpohkionapiaa
open Go.RowKit

/-- The tree at each place, and that it is built of its kids' trees. -/
structure PlaceOk (ts : List At) (ks : List (List Nat)) (f : List T) (i : Nat) (hi : i < ts.length) (hk : i < ks.length) : Prop where
  tree : mkT ts[i] (ks[i].map (fT f)) = some (fT f i)
  len : (ks[i].length : Int) = ts[i].kids
  low : ∀ y ∈ ks[i], y < i
  stk : ∃ st, bldT (ts.take (i + 1)) = some st ∧ fT f i ∈ st

theorem places (ts : List At) (o : List Nat) (ks : List (List Nat)) (hr : runK ts ts.length = some (o, ks)) (hbt : ∃ st, bldT ts = some st) :
    ∀ n (_ : n ≤ ts.length), ∃ (oi : List Nat) (f : List T), f.length = n ∧ runK ts n = some (oi, ks.take n) ∧ bldT (ts.take n) = some (oi.map (fT f)) ∧ ∀ i (hi : i < ts.length) (hk : i < ks.length), i < n → PlaceOk ts ks f i hi hk := by
  have hkl := (runK_len ts ts.length o ks hr).1
  intro n
  induction n with
  | zero => intro _; exact ⟨[], [], rfl, by simp [runK], by simp [bldT], fun i _ _ h => absurd h (by omega)⟩
  | succ n ih =>
    intro hn
    obtain ⟨oi, f, hf, hri, hbi, hall⟩ := ih (by omega)
    obtain ⟨oi', hri'⟩ := runK_prefix ts ts.length o ks hr (n + 1) hn
    have hk : n < ks.length := by omega
    have hri2 := hri'
    rw [kids_take ks n hk] at hri2
    obtain ⟨h1, h2, h3, h4⟩ := link_step (by omega) hri hf hbi hri2
    cases hx : mkT (ts[n]'(by omega)) (ks[n].map (fT f)) with
    | none =>
      obtain ⟨st, hst⟩ := hbt
      have := bldT_none ts (n + 1) (h3 hx) ts.length hn (Nat.le_refl _)
      rw [List.take_length, hst] at this
      cases this
    | some t =>
      have hold : ∀ (l : List Nat), (∀ y ∈ l, y < n) → l.map (fT (f ++ [t])) = l.map (fT f) := fun l hl => List.map_congr_left fun y hy => fT_old f t y (by have := hl y hy; omega)
      refine ⟨oi', f ++ [t], by simp [hf], hri', h4 t hx, fun i hi hik hin => ?_⟩
      by_cases e : i = n
      · subst e
        exact ⟨by rw [hold _ h2, hx, show fT (f ++ [t]) i = t by conv => lhs; rw [← hf, fT_new]], h1, h2, _, h4 t hx, List.mem_map.2 ⟨i, runK_last hri', rfl⟩⟩
      · have hp := hall i hi hik (by omega)
        exact ⟨by rw [hold _ (fun y hy => by have := hp.low y hy; omega), hp.tree, fT_old f t i (by omega)], hp.len, hp.low, by rw [fT_old f t i (by omega)]; exact hp.stk⟩

theorem mem_len {l : List T} {t : T} (h : t ∈ l) : t.form.length ≤ (formL l).length := by
  induction l with
  | nil => simp at h
  | cons x l ih =>
    simp only [formL, List.length_append]
    rcases List.mem_cons.1 h with rfl | h
    · omega
    · have := ih h; omega
theorem totalA_le (ts : List At) (k : Nat) : totalA (ts.take k) ≤ totalA ts := by
  have : totalA ts = totalA (ts.take k) + totalA (ts.drop k) := by
    unfold totalA
    rw [← List.sum_append, ← List.map_append, List.take_append_drop]
  omega
theorem PlaceOk.form {ts : List At} {ks : List (List Nat)} {f : List T} {i : Nat} {hi : i < ts.length} {hk : i < ks.length} (h : PlaceOk ts ks f i hi hk) (h300 : ts.length ≤ 300) : (fT f i).form.length ≤ 3600 + totalA ts := by
  obtain ⟨st, hb, hm⟩ := h.stk
  have h1 := (stack_len ts h300 (i + 1) hi st hb).2
  have h2 := mem_len hm
  have h3 := totalA_le ts (i + 1)
  omega
theorem fT_mem {f : List T} {i : Nat} (h : i < f.length) : fT f i ∈ f := by
  have e : f[i] = fT f i := by simp [fT, List.getD, h]
  rw [← e]; exact List.getElem_mem h
end Go.Proofs.Ytdjpohkionapiaa
