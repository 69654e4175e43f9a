/-
  What the plain reader gives is the value that the form is of.
-/
import Derived.Test.YtamaioeikcjhoaaDoorReadP
import Derived.Test.YtamaioeikcjhoaaDoorFormImpl
namespace Go.Proofs.YtamaioeikcjhoaaDoor
open Go.RowKit

theorem ascF_snoc : ∀ (ns : List ByteArray) (o : Option ByteArray) (s : ByteArray), ascF o ns → (ns = [] → ∀ x, o = some x → lessB x s = true) → (∀ l, ns.getLast? = some l → lessB l s = true) → ascF o (ns ++ [s])
  | [], o, s, _, h, _ => ⟨h rfl, trivial⟩
  | n :: ns, o, s, h1, _, h => ⟨h1.1, ascF_snoc ns (some n) s h1.2 (fun e x hx => by
      subst e
      injection hx with hx
      subst hx
      exact h n rfl) (fun l hl => by
      cases ns with
      | nil => simp at hl
      | cons m ms => exact h l (by simpa using hl))⟩
theorem ascF_at : ∀ (ns : List ByteArray) (o : Option ByteArray), ascF o ns → ∀ j (h : j + 1 < ns.length), lessB ns[j] ns[j + 1] = true
  | [], _, _, j, h => by simp at h
  | [n], _, _, j, h => by simp at h
  | n :: m :: ns, o, ha, 0, h => ha.2.1 n rfl
  | n :: m :: ns, o, ha, j + 1, h => by
    have := ascF_at (m :: ns) (some n) ha.2 j (by simpa using h)
    simpa using this
theorem nm_is {ks : List T} : ∀ (m : Nat) (ns : List ByteArray), nm ks m = some ns → (∀ j (h : j < ns.length), ks[2 * j]? = some (.text ns[j])) ∧ ascF none ns
  | 0, ns, h => by
    simp [nm] at h
    subst h
    exact ⟨fun j h => by simp at h, trivial⟩
  | m + 1, ns, h => by
    simp only [nm, Option.bind_eq_some_iff] at h
    obtain ⟨ns', h1, h2⟩ := h
    have hl := nm_len h1
    obtain ⟨e1, e2⟩ := nm_is m ns' h1
    have key : ∀ s, ks[2 * m]? = some (.text s) → ns = ns' ++ [s] → ∀ j (h : j < ns.length), ks[2 * j]? = some (.text ns[j]) := fun s hs he j hj => by
      subst he
      by_cases hjm : j < ns'.length
      · rw [List.getElem_append_left hjm]; exact e1 j hjm
      · have : j = m := by simp at hj; omega
        subst this
        rw [List.getElem_append_right (by omega)]
        simpa using hs
    split at h2
    · rename_i s hs
      split at h2
      · rename_i hg
        simp at h2
        refine ⟨key s hs h2.symm, ?_⟩
        rw [← h2]
        have : ns' = [] := by simpa using hg
        subst this
        exact ⟨(fun x hx => by cases hx), trivial⟩
      · rename_i l hg
        split at h2
        · rename_i hu
          simp at h2
          refine ⟨key s hs h2.symm, ?_⟩
          rw [← h2]
          exact ascF_snoc ns' none s e2 (fun _ x hx => by cases hx) (fun l' hl' => by rw [hg] at hl'; injection hl' with hl'; rw [← hl']; exact hu)
        · cases h2
    · cases h2
/-- Names and values, one after the other. -/
def il : List ByteArray → List T → List T
  | n :: ns, v :: vs => .text n :: v :: il ns vs
  | _, _ => []
theorem il_len : ∀ (ns : List ByteArray) (vs : List T), ns.length = vs.length → (il ns vs).length = 2 * vs.length
  | [], [], _ => rfl
  | n :: ns, v :: vs, h => by simp [il, il_len ns vs (by simpa using h)]; omega
  | [], _ :: _, h => by simp at h
  | _ :: _, [], h => by simp at h
theorem odds_il : ∀ (ns : List ByteArray) (vs : List T), ns.length = vs.length → odds (il ns vs) = vs
  | [], [], _ => rfl
  | n :: ns, v :: vs, h => by simp [il, odds, odds_il ns vs (by simpa using h)]
  | [], _ :: _, h => by simp at h
  | _ :: _, [], h => by simp at h
theorem il_at : ∀ (ns : List ByteArray) (vs : List T), ns.length = vs.length → ∀ j (h : j < ns.length), (il ns vs)[2 * j]? = some (.text ns[j])
  | [], [], _, j, h => by simp at h
  | n :: ns, v :: vs, _, 0, _ => by simp [il]
  | n :: ns, v :: vs, h, j + 1, hj => by
    have := il_at ns vs (by simpa using h) j (by simpa using hj)
    rw [show 2 * (j + 1) = 2 * j + 1 + 1 by omega]
    simpa [il] using this
  | [], _ :: _, h, _, _ => by simp at h
  | _ :: _, [], h, _, _ => by simp at h
theorem atF_il : ∀ (ns : List ByteArray) (vs : List T), ns.length = vs.length → atF ns vs = atL (il ns vs)
  | [], [], _ => rfl
  | n :: ns, v :: vs, h => by
    rw [atF_cons, il, atL_cons, atL_cons, atF_il ns vs (by simpa using h), T.atoms]
    simp
  | [], _ :: _, h => by simp at h
  | _ :: _, [], h => by simp at h
theorem il_of : ∀ (ks : List T) (ns : List ByteArray), ks.length = 2 * ns.length → (∀ j (h : j < ns.length), ks[2 * j]? = some (.text ns[j])) → ks = il ns (odds ks) ∧ (odds ks).length = ns.length
  | [], [], _, _ => ⟨rfl, rfl⟩
  | [], _ :: _, h, _ => by simp at h
  | [_], [], h, _ => by simp at h
  | [_], _ :: _, h, _ => by simp at h; omega
  | _ :: _ :: _, [], h, _ => by simp at h
  | k :: v :: r, n :: ns, h, he => by
    have h0 := he 0 (by simp)
    simp at h0
    obtain ⟨e1, e2⟩ := il_of r ns (by simp at h; omega) (fun j hj => by
      have := he (j + 1) (by simp; omega)
      rw [show 2 * (j + 1) = 2 * j + 1 + 1 by omega] at this
      simpa using this)
    exact ⟨by rw [odds, il, ← e1, h0], by simp [odds, e2]⟩
theorem odds_mem : ∀ (ks : List T) (t : T), t ∈ odds ks → t ∈ ks
  | [], t, h => by simp [odds] at h
  | [_], t, h => by simp [odds] at h
  | k :: v :: r, t, h => by
    rw [odds] at h
    rcases List.mem_cons.1 h with rfl | h
    · simp
    · have := odds_mem r t h
      simp [this]

def InR (ts : List At) : Prop := ∀ a ∈ ts, -9223372036854775808 ≤ a.n ∧ a.n < 9223372036854775808
theorem at_ext {a b : At} (h1 : a.kind = b.kind) (h2 : a.n = b.n) (h3 : a.text = b.text) (h4 : a.kids = b.kids) : a = b := by
  cases a; cases b; simp_all
theorem mkT_atoms {a : At} {ks : List T} {t : T} (hk : (ks.length : Int) = a.kids) (hr : -9223372036854775808 ≤ a.n ∧ a.n < 9223372036854775808) (hg : ∀ k ∈ ks, k.good) (h : mkT a ks = some t) : t.atoms = atL ks ++ [a] ∧ t.good := by
  have nil : a.kids = 0 → ks = [] := fun h => by
    have : ks.length = 0 := by omega
    exact List.length_eq_zero_iff.1 this
  unfold mkT at h
  split at h
  · rename_i k1
    split at h
    · rename_i hc
      obtain ⟨c1, c2, c3⟩ := hc
      injection h with h
      subst h
      rw [nil c2]
      refine ⟨?_, by rw [T.good]; exact c3⟩
      rw [T.atoms]
      simp only [atL, List.map_nil, List.flatten_nil, List.nil_append]
      exact congrArg (fun x => [x]) (at_ext k1.symm rfl (ba0 c1).symm c2.symm)
    · cases h
  split at h
  · rename_i k1
    split at h
    · rename_i hc
      obtain ⟨c1, c2⟩ := hc
      injection h with h
      subst h
      rw [nil c2]
      refine ⟨?_, by rw [T.good]; exact hr⟩
      rw [T.atoms]
      simp only [atL, List.map_nil, List.flatten_nil, List.nil_append]
      exact congrArg (fun x => [x]) (at_ext k1.symm rfl (ba0 c1).symm c2.symm)
    · cases h
  split at h
  · rename_i k1
    split at h
    · rename_i hc
      obtain ⟨c1, c2, c3⟩ := hc
      injection h with h
      subst h
      rw [nil c2]
      refine ⟨?_, by rw [T.good]; exact c3⟩
      rw [T.atoms]
      simp only [atL, List.map_nil, List.flatten_nil, List.nil_append]
      exact congrArg (fun x => [x]) (at_ext k1.symm c1.symm rfl c2.symm)
    · cases h
  split at h
  · rename_i k1
    split at h
    · rename_i hc
      obtain ⟨c1, c2⟩ := hc
      injection h with h
      subst h
      refine ⟨?_, good_list.2 hg⟩
      rw [atoms_list]
      exact congrArg (fun x => atL ks ++ [x]) (at_ext k1.symm c1.symm (ba0 c2).symm hk)
    · cases h
  split at h
  · rename_i k1
    split at h
    · rename_i hc
      obtain ⟨c1, c2, c3⟩ := hc
      rw [Option.map_eq_some_iff] at h
      obtain ⟨ns, h1, rfl⟩ := h
      obtain ⟨e1, e2⟩ := nm_is _ _ h1
      have hl := nm_len h1
      obtain ⟨e3, e4⟩ := il_of ks ns (by omega) e1
      refine ⟨?_, good_recd.2 ⟨e4.symm, fun n hn => ?_, e2, fun v hv => hg v (odds_mem ks v hv)⟩⟩
      · rw [atoms_recd, atF_il _ _ e4.symm, ← e3]
        exact congrArg (fun x => atL ks ++ [x]) (at_ext k1.symm c2.symm (ba0 c3).symm (by show (2 * (odds ks).length : Int) = _; omega))
      · obtain ⟨j, hj, rfl⟩ := List.getElem_of_mem hn
        have := hg (.text ns[j]) (List.mem_of_getElem? (e1 j hj))
        rw [T.good] at this
        exact this
    · cases h
  · cases h
theorem bld_atoms (ts : List At) (hr : InR ts) : ∀ i, i ≤ ts.length → ∀ st, bldT (ts.take i) = some st → ts.take i = atL st ∧ ∀ t ∈ st, t.good
  | 0, _, st, h => by
    have : st = [] := by simpa [bldT] using h.symm
    subst this
    simp [atL]
  | i + 1, hi, st, h => by
    rw [bldT_take ts i (by omega), Option.bind_eq_some_iff] at h
    obtain ⟨s0, h1, h2⟩ := h
    obtain ⟨e1, e2⟩ := bld_atoms ts hr i (by omega) s0 h1
    unfold stepT at h2
    split at h2
    · rename_i hc
      rw [Option.map_eq_some_iff] at h2
      obtain ⟨t, h3, rfl⟩ := h2
      obtain ⟨f1, f2⟩ := mkT_atoms (by simp; omega) (hr _ (List.getElem_mem (by omega))) (fun k hk => e2 k (List.mem_of_mem_drop hk)) h3
      refine ⟨?_, fun x hx => ?_⟩
      · rw [List.take_succ_eq_append_getElem (by omega), e1, atL_append, atL_cons, f1, ← List.append_assoc, ← List.append_assoc, ← atL_append, List.take_append_drop]
        simp [atL]
      · rcases List.mem_append.1 hx with hx | hx
        · exact e2 x (List.mem_of_mem_take hx)
        · simp at hx; subst hx; exact f2
    · cases h2

theorem run_atL {f : Nat} (ih : ∀ t : T, t.nest < f → t.good → ∀ st, t.atoms.foldlM (fun st a => stepT a st) st = some (st ++ [t])) : ∀ (ks : List T), (∀ k ∈ ks, k.nest < f) → (∀ k ∈ ks, k.good) → ∀ st, (atL ks).foldlM (fun st a => stepT a st) st = some (st ++ ks)
  | [], _, _, st => by simp [atL]
  | t :: ks, hn, hg, st => by
    rw [atL_cons, List.foldlM_append, ih t (hn t (by simp)) (hg t (by simp)) st]
    show List.foldlM _ (st ++ [t]) (atL ks) = _
    rw [run_atL ih ks (fun k hk => hn k (by simp [hk])) (fun k hk => hg k (by simp [hk]))]
    simp
theorem nm_il {ns : List ByteArray} {vs : List T} (hl : ns.length = vs.length) (ha : ascF none ns) : ∀ m, m ≤ ns.length → nm (il ns vs) m = some (ns.take m)
  | 0, _ => by simp [nm]
  | m + 1, hm => by
    rw [nm, nm_il hl ha m (by omega)]
    simp only [Option.bind_some]
    rw [il_at ns vs hl m (by omega)]
    dsimp only
    by_cases h0 : m = 0
    · subst h0
      simp only [List.take_zero, List.getLast?_nil, List.nil_append]
      rw [List.take_succ_eq_append_getElem (by omega)]
      simp
    · have hg : (ns.take m).getLast? = some ns[m - 1] := by
        rw [List.getLast?_eq_getElem?, List.length_take, Nat.min_eq_left (by omega), List.getElem?_take_of_lt (by omega), List.getElem?_eq_getElem (by omega)]
      rw [hg]
      dsimp only
      have hu := ascF_at ns none ha (m - 1) (by omega)
      have e : ns[m - 1 + 1]'(by omega) = ns[m] := by congr 1; omega
      rw [e] at hu
      rw [if_pos hu, List.take_succ_eq_append_getElem (by omega)]
theorem step_top {a : At} {st ks : List T} {t : T} (hk : a.kids = (ks.length : Int)) (h : mkT a ks = some t) : stepT a (st ++ ks) = some (st ++ [t]) := by
  unfold stepT
  have e : (st ++ ks).length - a.kids.toNat = st.length := by rw [List.length_append]; omega
  rw [if_pos (by rw [List.length_append]; omega), e, List.drop_left, List.take_left, h]
  rfl
theorem run_atoms : ∀ (f : Nat) (t : T), t.nest < f → t.good → ∀ st, t.atoms.foldlM (fun st a => stepT a st) st = some (st ++ [t])
  | 0, t, h, _, _ => by omega
  | f + 1, t, hn, hg, st => by
    have one : ∀ (a : At), (∀ st : List T, stepT a (st ++ []) = some (st ++ [t])) → [a].foldlM (fun st a => stepT a st) st = some (st ++ [t]) := fun a h => by
      have := h st
      rw [List.append_nil] at this
      simp [this]
    cases t using T.five with
    | flag n =>
      have hn' : n = 0 ∨ n = 1 := by rw [T.good] at hg; exact hg
      rw [T.atoms]
      refine one _ (fun st => step_top rfl ?_)
      unfold mkT flagA
      rw [if_pos rfl, if_pos ⟨rfl, rfl, hn'⟩]
    | num n =>
      rw [T.atoms]
      refine one _ (fun st => step_top rfl ?_)
      unfold mkT numA
      rw [if_neg (by simp), if_pos rfl, if_pos ⟨rfl, rfl⟩]
    | text s =>
      have hs : s.size ≤ 1500 := by rw [T.good] at hg; exact hg
      rw [T.atoms]
      refine one _ (fun st => step_top rfl ?_)
      unfold mkT textA
      rw [if_neg (by simp), if_neg (by simp), if_pos rfl, if_pos ⟨rfl, rfl, hs⟩]
    | list ks =>
      have hne : (T.list ks).nest = nestL ks := T.nest_list ks
      rw [atoms_list, List.foldlM_append, run_atL (run_atoms f) ks (fun k hk => by have := nestL_mem hk; omega) (good_list.1 hg) st]
      have : stepT (listA ks.length) (st ++ ks) = some (st ++ [T.list ks]) := step_top rfl (by
        unfold mkT listA
        rw [if_neg (by simp), if_neg (by simp), if_neg (by simp), if_pos rfl, if_pos ⟨rfl, rfl⟩])
      simp [this]
    | recd ns vs =>
      obtain ⟨g1, g2, g3, g4⟩ := good_recd.1 hg
      have hne : (T.recd ns vs).nest = nestL vs := T.nest_recd ns vs
      have hmem : ∀ (ns : List ByteArray) (vs : List T) k, k ∈ il ns vs → (∃ n ∈ ns, k = .text n) ∨ k ∈ vs := by
        intro ns
        induction ns with
        | nil => intro vs k hk; cases vs <;> simp [il] at hk
        | cons n ns ih =>
          intro vs k hk
          cases vs with
          | nil => simp [il] at hk
          | cons v vs =>
            simp only [il, List.mem_cons] at hk
            rcases hk with rfl | rfl | hk
            · exact .inl ⟨n, by simp, rfl⟩
            · exact .inr (by simp)
            · rcases ih vs k hk with ⟨m, h1, h2⟩ | h
              · exact .inl ⟨m, by simp [h1], h2⟩
              · exact .inr (by simp [h])
      have hf : 0 < f ∨ vs = [] := by
        cases vs with
        | nil => exact .inr rfl
        | cons v vs => left; have := nestL_mem (l := v :: vs) (t := v) (by simp); omega
      rw [atoms_recd, atF_il ns vs g1, List.foldlM_append, run_atL (run_atoms f) (il ns vs) (fun k hk => by
        rcases hmem ns vs k hk with ⟨n, hn', rfl⟩ | hk
        · rcases hf with h | h
          · rw [T.nest_text]; exact h
          · subst h
            simp at g1
            subst g1
            simp at hn'
        · have := nestL_mem hk; omega) (fun k hk => by
        rcases hmem ns vs k hk with ⟨n, hn', rfl⟩ | hk
        · rw [T.good]; exact g2 n hn'
        · exact g4 k hk) st]
      have hil := il_len ns vs g1
      have : stepT (recA vs.length) (st ++ il ns vs) = some (st ++ [T.recd ns vs]) := step_top (by rw [hil]; show (2 * vs.length : Int) = _; omega) (by
        unfold mkT recA
        rw [if_neg (by simp), if_neg (by simp), if_neg (by simp), if_neg (by simp), if_pos rfl, if_pos ⟨by omega, rfl, rfl⟩, show (il ns vs).length / 2 = ns.length by omega, nm_il g1 g3 ns.length (Nat.le_refl _), odds_il ns vs g1, List.take_length]
        rfl)
      simp [this]

/-- What is read of a text. -/
def readV (l : List UInt8) : Option (List At) := if l.length ≤ 100000 then (match pVal 13 300 l with
  | some (xs, []) => some xs
  | _ => none) else none
theorem read_form {l : List UInt8} {xs : List At} (h : readV l = some xs) : formV xs = ⟨l.toArray⟩ ∧ l ≠ [] ∧ xs.length ≤ 300 ∧ InR xs ∧ (∀ a ∈ xs, a.text.size ≤ 1500) := by
  unfold readV at h
  split at h
  · rename_i hl
    split at h
    · rename_i ys hp
      injection h with h
      subst h
      obtain ⟨t, t1, t2, t3, t4, t5⟩ := pVal_sound 13 300 l ys [] hp
      rw [List.append_nil] at t4
      have hb : bldT ys = some [t] := by rw [t3]; exact run_atoms 13 t t2 t1 []
      have hv : valT ys = some t := by
        unfold valT
        rw [if_pos t5, hb]
        dsimp only
        rw [if_pos (by omega)]
      refine ⟨by unfold formV; rw [hv]; dsimp only; rw [if_pos (by rw [← t4]; exact hl), t4], fun e => ?_, t5, ?_⟩
      · have := form_pos t
        rw [← t4, e] at this
        simp at this
      · rw [t3]
        have key : ∀ (f : Nat) (t : T), t.nest < f → t.good → ∀ a ∈ t.atoms, (-9223372036854775808 ≤ a.n ∧ a.n < 9223372036854775808) ∧ a.text.size ≤ 1500 := by
          intro f
          induction f with
          | zero => intro t h; omega
          | succ f ih =>
            intro t hn hg a ha
            cases t using T.five with
            | flag n =>
              rw [T.good] at hg
              rw [T.atoms] at ha
              simp at ha
              subst ha
              exact ⟨by show _ ≤ n ∧ n < _; omega, Nat.zero_le _⟩
            | num n =>
              rw [T.good] at hg
              rw [T.atoms] at ha
              simp at ha
              subst ha
              exact ⟨hg, Nat.zero_le _⟩
            | text s =>
              rw [T.good] at hg
              rw [T.atoms] at ha
              simp at ha
              subst ha
              exact ⟨by show (_ : Int) ≤ 0 ∧ (0 : Int) < _; omega, hg⟩
            | list ks =>
              have hne : (T.list ks).nest = nestL ks := T.nest_list ks
              rw [atoms_list] at ha
              rcases List.mem_append.1 ha with ha | ha
              · simp only [atL, List.mem_flatten, List.mem_map] at ha
                obtain ⟨_, ⟨k, hk, rfl⟩, ha⟩ := ha
                exact ih k (by have := nestL_mem hk; omega) (good_list.1 hg k hk) a ha
              · simp at ha
                subst ha
                exact ⟨by show (_ : Int) ≤ 0 ∧ (0 : Int) < _; omega, Nat.zero_le _⟩
            | recd ns vs =>
              obtain ⟨g1, g2, g3, g4⟩ := good_recd.1 hg
              have hne : (T.recd ns vs).nest = nestL vs := T.nest_recd ns vs
              rw [atoms_recd] at ha
              rcases List.mem_append.1 ha with ha | ha
              · have walk : ∀ (ns : List ByteArray) (vs : List T), ns.length = vs.length → (∀ n ∈ ns, n.size ≤ 1500) → (∀ v ∈ vs, v.nest < f ∧ v.good) → a ∈ atF ns vs → (-9223372036854775808 ≤ a.n ∧ a.n < 9223372036854775808) ∧ a.text.size ≤ 1500 := by
                  intro ns
                  induction ns with
                  | nil => intro vs hl _ _ ha; cases vs <;> simp [atF] at ha
                  | cons n ns ihn =>
                    intro vs hl hz hv ha
                    cases vs with
                    | nil => simp at hl
                    | cons v vs =>
                      rw [atF_cons] at ha
                      rcases List.mem_cons.1 ha with rfl | ha
                      · exact ⟨by show (_ : Int) ≤ 0 ∧ (0 : Int) < _; omega, hz n (by simp)⟩
                      · rcases List.mem_append.1 ha with ha | ha
                        · exact ih v (hv v (by simp)).1 (hv v (by simp)).2 a ha
                        · exact ihn vs (by simpa using hl) (fun x hx => hz x (by simp [hx])) (fun x hx => hv x (by simp [hx])) ha
                exact walk ns vs g1 g2 (fun v hv => ⟨by have := nestL_mem hv; omega, g4 v hv⟩) ha
              · simp at ha
                subst ha
                exact ⟨by show (_ : Int) ≤ 0 ∧ (0 : Int) < _; omega, Nat.zero_le _⟩
        exact ⟨fun a ha => (key 13 t t2 t1 a ha).1, fun a ha => (key 13 t t2 t1 a ha).2⟩
    · cases h
  · cases h
theorem form_read {l : List UInt8} {xs : List At} (h : formV xs = ⟨l.toArray⟩) (hl : l ≠ []) (hr : InR xs) : readV l = some xs := by
  unfold formV at h
  have no : ∀ {x : ByteArray}, x = ⟨l.toArray⟩ → x = ⟨#[]⟩ → False := fun h1 h2 => by
    rw [h1] at h2
    injection h2 with h2
    exact hl (by simpa using congrArg Array.toList h2)
  split at h
  · rename_i t hv
    split at h
    · rename_i hz
      have e : l = t.form := by
        injection h with h
        simpa using (congrArg Array.toList h).symm
      unfold valT at hv
      split at hv
      · rename_i h300
        split at hv
        · rename_i t' hb
          split at hv
          · rename_i hn
            injection hv with hv
            subst hv
            have hb' : bldT (xs.take xs.length) = some [t'] := by rw [List.take_length]; exact hb
            obtain ⟨e1, e2⟩ := bld_atoms xs hr xs.length (Nat.le_refl _) [t'] hb'
            rw [List.take_length] at e1
            have e3 : xs = t'.atoms := by rw [e1]; simp [atL]
            have hp := pVal_full 13 t' 300 [] (e2 t' (by simp)) (by omega) (by rw [← e3]; exact h300) (Nat.le_refl _)
            rw [List.append_nil, ← e, ← e3] at hp
            unfold readV
            rw [if_pos (by rw [e]; exact hz), hp]
          · cases hv
        · cases hv
      · cases hv
    · exact (no h rfl).elim
  · exact (no h rfl).elim
end Go.Proofs.YtamaioeikcjhoaaDoor
