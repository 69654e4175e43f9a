/-
  Plain: the specification's places against the trees.
-/
import Derived.Test.YtdjpohkionapiaaAtomOk
namespace Go.Proofs.Ytdjpohkionapiaa

theorem bld_run (ts : List At) : ∀ i, i ≤ ts.length → ∀ st, bldT (ts.take i) = some st → ∃ o ks, runK ts i = some (o, ks) ∧ o.length = st.length
  | 0, _, st, h => by simp [bldT] at h; subst h; exact ⟨[], [], rfl, rfl⟩
  | i + 1, hi, st, h => by
    rw [bldT_take ts i (by omega), Option.bind_eq_some_iff] at h
    obtain ⟨st1, h1, h2⟩ := h
    obtain ⟨o, ks, hr, hl⟩ := bld_run ts i (by omega) st1 h1
    unfold stepT at h2
    split at h2
    · rename_i hc
      obtain ⟨t, _, rfl⟩ := Option.map_eq_some_iff.1 h2
      refine ⟨_, _, by rw [runK_step ts i (by omega) hr, stepK, if_pos (by omega)]; rfl, by simp [hl]⟩
    · simp at h2

theorem runK_prefix (ts : List At) : ∀ n o ks, runK ts n = some (o, ks) → ∀ i, i ≤ n → ∃ oi, runK ts i = some (oi, ks.take i)
  | 0, o, ks, h, i, hi => by
    obtain rfl : i = 0 := by omega
    simp [runK] at h ⊢
  | n + 1, o, ks, h, i, hi => by
    have hl := (runK_len ts (n + 1) o ks h).1
    by_cases e : i = n + 1
    · subst e; exact ⟨o, by rw [h, List.take_of_length_le (by omega)]⟩
    · simp only [runK, Option.bind_eq_some_iff] at h
      obtain ⟨⟨o1, ks1⟩, h1, h2⟩ := h
      have hl1 := (runK_len ts n o1 ks1 h1).1
      obtain ⟨oi, hoi⟩ := runK_prefix ts n o1 ks1 h1 i (by omega)
      refine ⟨oi, ?_⟩
      split at h2
      · simp at h2
      · simp only [Option.map_eq_some_iff] at h2
        obtain ⟨r, _, h4⟩ := h2
        simp at h4
        rw [hoi, ← h4.2, List.take_append_of_le_length (by omega)]

def fT (f : List T) (x : Nat) : T := f.getD x (.flag 0)
theorem fT_old (f : List T) (t : T) (x : Nat) (h : x < f.length) : fT (f ++ [t]) x = fT f x := by
  simp [fT, List.getD, List.getElem?_append_left h]
theorem fT_new (f : List T) (t : T) : fT (f ++ [t]) f.length = t := by simp [fT, List.getD]

/-- One atom more, on both sides. -/
theorem link_step {ts : List At} {i : Nat} (hi : i < ts.length) {o : List Nat} {ks : List (List Nat)} {f : List T} (hr : runK ts i = some (o, ks)) (hf : f.length = i) (hb : bldT (ts.take i) = some (o.map (fT f))) {o' : List Nat} {kd : List Nat} (hr' : runK ts (i + 1) = some (o', ks ++ [kd])) :
    (kd.length : Int) = ts[i].kids ∧ (∀ x ∈ kd, x < i) ∧ (mkT ts[i] (kd.map (fT f)) = none → bldT (ts.take (i + 1)) = none) ∧ ∀ t, mkT ts[i] (kd.map (fT f)) = some t → bldT (ts.take (i + 1)) = some (o'.map (fT (f ++ [t]))) := by
  have hlen := runK_len ts i o ks hr
  rw [runK_step ts i hi hr, Option.map_eq_some_iff] at hr'
  obtain ⟨⟨o1, k1⟩, h1, h2⟩ := hr'
  simp at h2
  obtain ⟨rfl, rfl⟩ := h2
  unfold stepK at h1
  split at h1
  · rename_i hc
    simp at h1
    obtain ⟨rfl, rfl⟩ := h1
    have hbs : bldT (ts.take (i + 1)) = (mkT ts[i] ((o.drop (o.length - ts[i].kids.toNat)).map (fT f))).map fun t => (o.take (o.length - ts[i].kids.toNat)).map (fT f) ++ [t] := by
      rw [bldT_take ts i hi, hb]
      simp only [Option.bind_some, stepT, List.length_map]
      rw [if_pos hc, List.map_drop, List.map_take]
    refine ⟨by simp; omega, fun x hx => hlen.2.2 x (List.mem_of_mem_drop hx), fun hn => by rw [hbs, hn]; rfl, fun t ht => ?_⟩
    rw [hbs, ht]
    simp only [Option.map_some, Option.some.injEq, List.map_append, List.map_cons, List.map_nil]
    congr 1
    · refine List.map_congr_left fun x hx => (fT_old f t x ?_).symm
      have := hlen.2.2 x (List.mem_of_mem_take hx)
      omega
    · rw [← hf, fT_new]
  · simp at h1

theorem mkT_text {a : At} {ks : List T} {t : T} (h : mkT a ks = some t) : (a.kind = 3 → t = .text a.text) ∧ (a.kind ≠ 3 → ∀ s, t ≠ .text s) := by
  unfold mkT at h
  repeat' split at h
  all_goals first
    | (simp at h; done)
    | (simp at h; subst h; constructor <;> intro hk <;> first | omega | rfl | (intro s; simp))
    | (obtain ⟨ns, _, rfl⟩ := Option.map_eq_some_iff.1 h; constructor <;> intro hk <;> first | omega | (intro s; simp))

theorem mkT_iff (a : At) (ks : List T) (hl : (ks.length : Int) = a.kids) : (∃ t, mkT a ks = some t) ↔ (AtomOk a ∧ (a.kind = 5 → ∃ ns, nm ks (ks.length / 2) = some ns)) := by
  obtain ⟨k, n, t, q⟩ := a
  simp only at hl
  by_cases k1 : k = 1
  · subst k1
    have e : mkT ⟨1, n, t, q⟩ ks = if t.size = 0 ∧ q = 0 ∧ (n = 0 ∨ n = 1) then some (.flag n) else none := if_pos rfl
    rw [e]
    simp [AtomOk, okFlag]
  by_cases k2 : k = 2
  · subst k2
    have e : mkT ⟨2, n, t, q⟩ ks = if t.size = 0 ∧ q = 0 then some (.num n) else none := (if_neg (by simp)).trans (if_pos rfl)
    rw [e]
    simp [AtomOk, okInt]
  by_cases k3 : k = 3
  · subst k3
    have e : mkT ⟨3, n, t, q⟩ ks = if n = 0 ∧ q = 0 ∧ t.size ≤ 1500 then some (.text t) else none := (if_neg (by simp)).trans ((if_neg (by simp)).trans (if_pos rfl))
    rw [e]
    simp [AtomOk, okText]
  by_cases k4 : k = 4
  · subst k4
    have e : mkT ⟨4, n, t, q⟩ ks = if n = 0 ∧ t.size = 0 then some (.list ks) else none := (if_neg (by simp)).trans ((if_neg (by simp)).trans ((if_neg (by simp)).trans (if_pos rfl)))
    rw [e]
    simp [AtomOk, okLst]
    omega
  by_cases k5 : k = 5
  · subst k5
    have e : mkT ⟨5, n, t, q⟩ ks = if ks.length % 2 = 0 ∧ n = 0 ∧ t.size = 0 then (nm ks (ks.length / 2)).map (fun ns => T.recd ns (odds ks)) else none := (if_neg (by simp)).trans ((if_neg (by simp)).trans ((if_neg (by simp)).trans ((if_neg (by simp)).trans (if_pos rfl))))
    rw [e]
    have hmod : ks.length % 2 = 0 ↔ q % 2 = 0 := by omega
    have hq0 : 0 ≤ q := by omega
    simp only [AtomOk, okRec]
    cases hx : nm ks (ks.length / 2) with
    | none => simp
    | some ns =>
      simp [hmod, hq0]
      exact ⟨fun ⟨x, y, z⟩ => ⟨y, z, x⟩, fun ⟨x, y, z⟩ => ⟨z, x, y⟩⟩
  · have e : mkT ⟨k, n, t, q⟩ ks = none := by simp [mkT, k1, k2, k3, k4, k5]
    rw [e]
    simp [AtomOk, k1, k2, k3, k4, k5]
end Go.Proofs.Ytdjpohkionapiaa
