/-
  A tree changed by a patch, plain.
-/
import Derived.Test.YtidkcdppdkfplaaMrgP
import Derived.Test.YtidkcdppdkfplaaSetP
import Derived.Test.YtidkcdppdkfplaaApJ
namespace Go.Proofs.Ytidkcdppdkfplaa
open Go.RowKit

/-- The entries that lie under other paths. -/
def offP (ts : List En) (p : ByteArray) : List En := ts.filter fun e => !(e.path.toList == p.toList)
theorem offP_mem {ts : List En} {p : ByteArray} (e : En) : e ∈ offP ts p ↔ e ∈ ts ∧ e.path ≠ p := by
  unfold offP
  rw [List.mem_filter, Bool.not_eq_true']
  refine and_congr Iff.rfl ?_
  exact neb_iff
theorem offP_asc {ts : List En} {p : ByteArray} (h : Asc ts) : Asc (offP ts p) := List.Pairwise.filter _ h
theorem offP_take {ts : List En} {p : ByteArray} {k : Nat} (hk : k < ts.length) : offP (ts.take (k + 1)) p = if ts[k].path.toList == p.toList then offP (ts.take k) p else offP (ts.take k) p ++ [ts[k]] := by
  rw [List.take_succ_eq_append_getElem hk]
  unfold offP
  rw [List.filter_append]
  cases h : ts[k].path.toList == p.toList <;> simp [h]
theorem offP_len {ts : List En} {p : ByteArray} : (offP ts p).length ≤ ts.length := List.length_filter_le _ _

/-- What l6Lay makes. -/
def LayRel (ts : List En) (p : ByteArray) (f : Fl) (us : List En) : Prop :=
  if f.there = true then SetRel (offP ts p) ⟨p, f.text, f.runs⟩ us else us = offP ts p
theorem LayRel.asc {ts : List En} {p : ByteArray} {f : Fl} {us : List En} (hA : Asc ts) (h : LayRel ts p f us) : Asc us := by
  unfold LayRel at h
  split at h
  · exact h.asc
  · rw [h]; exact offP_asc hA
theorem LayRel.mem {ts : List En} {p : ByteArray} {f : Fl} {us : List En} (h : LayRel ts p f us) (e : En) : e ∈ us ↔ (f.there = true ∧ e = ⟨p, f.text, f.runs⟩) ∨ (e ∈ ts ∧ e.path ≠ p) := by
  unfold LayRel at h
  split at h
  · rename_i ht
    rw [h.mem, offP_mem]
    constructor
    · rintro (rfl | ⟨⟨h1, h2⟩, _⟩)
      · exact .inl ⟨ht, rfl⟩
      · exact .inr ⟨h1, h2⟩
    · rintro (⟨_, rfl⟩ | ⟨h1, h2⟩)
      · exact .inl rfl
      · exact .inr ⟨⟨h1, h2⟩, h2⟩
  · rename_i ht
    rw [h, offP_mem]
    constructor
    · exact .inr
    · rintro (⟨h1, _⟩ | h1)
      · exact absurd h1 ht
      · exact h1

/-- A list with all changes laid. -/
structure AppRel (ts : List En) (cs : List Ch) (us : List En) : Prop where
  asc : Asc us
  mem : ∀ e, e ∈ us ↔ (∃ c ∈ cs, c.new.there = true ∧ e = ⟨c.path, c.new.text, c.new.runs⟩) ∨ (e ∈ ts ∧ ∀ c ∈ cs, c.path ≠ e.path)
theorem AppRel.one {ts : List En} {cs : List Ch} {us us' : List En} (h : AppRel ts cs us) (h' : AppRel ts cs us') : us = us' :=
  asc_unique h.asc h'.asc (fun e => by rw [h.mem, h'.mem])
theorem AppRel.start {ts : List En} (h : Asc ts) : AppRel ts [] ts := ⟨h, fun e => by simp⟩
theorem AppRel.step {ts : List En} {cs : List Ch} {us us' : List En} {k : Nat} (hk : k < cs.length) (hC : AscK Ch.path cs) (h : AppRel ts (cs.take k) us) (hl : LayRel us cs[k].path cs[k].new us') : AppRel ts (cs.take (k + 1)) us' := by
  refine ⟨hl.asc h.asc, fun e => ?_⟩
  have hlt : ∀ c ∈ cs.take k, c.path ≠ cs[k].path := fun c hc => by
    obtain ⟨i, hi, rfl⟩ := List.getElem_of_mem hc
    rw [List.getElem_take]
    have hi2 : i < k := by simp at hi; omega
    exact less_ne (List.pairwise_iff_getElem.1 hC i k (by omega) hk hi2)
  have htk : ∀ c, c ∈ cs.take (k + 1) ↔ c ∈ cs.take k ∨ c = cs[k] := fun c => by
    rw [List.take_succ_eq_append_getElem hk, List.mem_append, List.mem_singleton]
  rw [hl.mem, h.mem]
  constructor
  · rintro (⟨h1, rfl⟩ | ⟨⟨c, hc, h1, rfl⟩ | ⟨h1, h2⟩, h3⟩)
    · exact .inl ⟨cs[k], (htk _).2 (.inr rfl), h1, rfl⟩
    · exact .inl ⟨c, (htk _).2 (.inl hc), h1, rfl⟩
    · refine .inr ⟨h1, fun c hc => ?_⟩
      rcases (htk c).1 hc with h4 | h4
      · exact h2 c h4
      · rw [h4]; exact fun e' => h3 e'.symm
  · rintro (⟨c, hc, h1, rfl⟩ | ⟨h1, h2⟩)
    · rcases (htk c).1 hc with h4 | h4
      · exact .inr ⟨.inl ⟨c, h4, h1, rfl⟩, hlt c h4⟩
      · subst h4; exact .inl ⟨h1, rfl⟩
    · exact .inr ⟨.inr ⟨h1, fun c hc => h2 c ((htk c).2 (.inl hc))⟩, fun e' => h2 cs[k] ((htk _).2 (.inr rfl)) e'.symm⟩

/-- What one round of impl's loop puts behind. -/
def outA (z : En) : Option En → Option Ch → List En
  | e, none => [e.getD z]
  | _, some c => if c.new.there = true then [⟨c.path, c.new.text, c.new.runs⟩] else []
theorem outA_some (z : En) (e : Option En) (c : Ch) : outA z e (some c) = if c.new.there = true then [⟨c.path, c.new.text, c.new.runs⟩] else [] := by cases e <;> rfl
theorem outA_none (z : En) (e : Option En) : outA z e none = [e.getD z] := by cases e <;> rfl
theorem app_rows {ts : List En} {cs : List Ch} {ns : List ByteArray} (z : En) (hN : AscN ns) (hm : ∀ p, p ∈ ns ↔ (∃ x ∈ ts, En.path x = p) ∨ ∃ y ∈ cs, Ch.path y = p) (hA : Asc ts) (hC : AscK Ch.path cs) :
    AppRel ts cs (ns.flatMap fun p => outA z (fnd En.path ts p) (fnd Ch.path cs p)) := by
  have hpath : ∀ p ∈ ns, ∀ e ∈ outA z (fnd En.path ts p) (fnd Ch.path cs p), e.path = p := fun p hp e he => by
    cases hc : fnd Ch.path cs p with
    | some c =>
      rw [hc, outA_some] at he
      split at he
      · rw [List.mem_singleton.1 he]; exact (fnd_some hc).2
      · cases he
    | none =>
      rw [hc, outA_none] at he
      have he2 : e = (fnd En.path ts p).getD z := List.mem_singleton.1 he
      cases ht : fnd En.path ts p with
      | some x => rw [ht] at he2; rw [he2]; exact (fnd_some ht).2
      | none =>
        exfalso
        rcases (hm p).1 hp with ⟨x, hx, hxp⟩ | ⟨x, hx, hxp⟩
        · unfold fnd at ht
          rw [List.find?_eq_none] at ht
          exact ht x hx (eqb_iff.2 hxp)
        · unfold fnd at hc
          rw [List.find?_eq_none] at hc
          exact hc x hx (eqb_iff.2 hxp)
  have hone : ∀ p, (outA z (fnd En.path ts p) (fnd Ch.path cs p)).length ≤ 1 := fun p => by
    cases fnd Ch.path cs p with
    | none => rw [outA_none]; simp
    | some c => rw [outA_some]; split <;> simp
  have uniqT : ∀ {x y : En}, x ∈ ts → y ∈ ts → x.path = y.path → x = y := fun {x y} hx hy hxy => by
    obtain ⟨i, hi, rfl⟩ := List.getElem_of_mem hx
    obtain ⟨j, hj, rfl⟩ := List.getElem_of_mem hy
    rcases Nat.lt_trichotomy i j with h | h | h
    · exact absurd hxy (less_ne (List.pairwise_iff_getElem.1 hA i j hi hj h))
    · subst h; rfl
    · exact absurd hxy.symm (less_ne (List.pairwise_iff_getElem.1 hA j i hj hi h))
  have uniqC : ∀ {x y : Ch}, x ∈ cs → y ∈ cs → x.path = y.path → x = y := fun {x y} hx hy hxy => by
    obtain ⟨i, hi, rfl⟩ := List.getElem_of_mem hx
    obtain ⟨j, hj, rfl⟩ := List.getElem_of_mem hy
    rcases Nat.lt_trichotomy i j with h | h | h
    · exact absurd hxy (less_ne (List.pairwise_iff_getElem.1 hC i j hi hj h))
    · subst h; rfl
    · exact absurd hxy.symm (less_ne (List.pairwise_iff_getElem.1 hC j i hj hi h))
  refine ⟨?_, fun e => ?_⟩
  · have key : ∀ l : List ByteArray, AscN l → (∀ p ∈ l, p ∈ ns) → Asc (l.flatMap fun p => outA z (fnd En.path ts p) (fnd Ch.path cs p)) := by
      intro l
      induction l with
      | nil => intro _ _; exact List.Pairwise.nil
      | cons p l ih =>
        intro hl hs
        obtain ⟨h1, h2⟩ := List.pairwise_cons.1 hl
        rw [List.flatMap_cons]
        refine List.pairwise_append.2 ⟨?_, ih h2 (fun q hq => hs q (by simp [hq])), fun x hx y hy => ?_⟩
        · have h3 := hone p
          generalize outA z (fnd En.path ts p) (fnd Ch.path cs p) = m at h3
          match m, h3 with
          | [], _ => exact List.Pairwise.nil
          | [x], _ => exact List.pairwise_singleton _ _
        · obtain ⟨q, hq, hy2⟩ := List.mem_flatMap.1 hy
          rw [hpath p (hs p (by simp)) x hx, hpath q (hs q (by simp [hq])) y hy2]
          exact h1 q hq
    exact key ns hN (fun p hp => hp)
  · constructor
    · intro he
      obtain ⟨p, hp, he2⟩ := List.mem_flatMap.1 he
      cases hc : fnd Ch.path cs p with
      | some c =>
        rw [hc, outA_some] at he2
        split at he2
        · rename_i hth
          exact .inl ⟨c, (fnd_some hc).1, hth, List.mem_singleton.1 he2⟩
        · cases he2
      | none =>
        have hpe := hpath p hp e he2
        rw [hc, outA_none] at he2
        have he3 : e = (fnd En.path ts p).getD z := List.mem_singleton.1 he2
        cases ht : fnd En.path ts p with
        | some x =>
          rw [ht] at he3
          have he4 : e = x := he3
          subst he4
          refine .inr ⟨(fnd_some ht).1, fun c hcc e' => ?_⟩
          unfold fnd at hc
          rw [List.find?_eq_none] at hc
          exact hc c hcc (eqb_iff.2 (by rw [e', hpe]))
        | none =>
          exfalso
          rcases (hm p).1 hp with ⟨x, hx, hxp⟩ | ⟨x, hx, hxp⟩
          · unfold fnd at ht
            rw [List.find?_eq_none] at ht
            exact ht x hx (eqb_iff.2 hxp)
          · unfold fnd at hc
            rw [List.find?_eq_none] at hc
            exact hc x hx (eqb_iff.2 hxp)
    · rintro (⟨c, hc, hth, rfl⟩ | ⟨he, hno⟩)
      · refine List.mem_flatMap.2 ⟨c.path, (hm _).2 (.inr ⟨c, hc, rfl⟩), ?_⟩
        have hf : fnd Ch.path cs c.path = some c := by
          cases h : fnd Ch.path cs c.path with
          | none =>
            unfold fnd at h
            rw [List.find?_eq_none] at h
            exact absurd (eqb_iff.2 rfl) (h c hc)
          | some d => rw [uniqC (fnd_some h).1 hc (fnd_some h).2]
        rw [hf, outA_some, if_pos hth]
        simp
      · refine List.mem_flatMap.2 ⟨e.path, (hm _).2 (.inl ⟨e, he, rfl⟩), ?_⟩
        have hf : fnd En.path ts e.path = some e := by
          cases h : fnd En.path ts e.path with
          | none =>
            unfold fnd at h
            rw [List.find?_eq_none] at h
            exact absurd (eqb_iff.2 rfl) (h e he)
          | some d => rw [uniqT (fnd_some h).1 he (fnd_some h).2]
        have hg : fnd Ch.path cs e.path = none := fnd_none (fun c hc => hno c hc)
        rw [hf, hg, outA_none]
        simp
end Go.Proofs.Ytidkcdppdkfplaa
