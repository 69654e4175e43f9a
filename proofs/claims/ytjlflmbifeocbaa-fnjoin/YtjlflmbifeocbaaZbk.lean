/-
  AtP, UndoP, PjP, JnT, DrawAp, LyN, ApRN, ApN, DrawJn: laid as one text.
-/
import Derived.Test.YtjlflmbifeocbaaZbc
import Derived.Test.YtjlflmbifeocbaaZba
import Derived.Test.YtjlflmbifeocbaaMrgP
import Derived.Test.YtjlflmbifeocbaaDiffS
import Derived.Test.YtjlflmbifeocbaaZbd
import Derived.Test.YtjlflmbifeocbaaZbe
import Derived.Test.YtjlflmbifeocbaaZbg
import Derived.Test.YtjlflmbifeocbaaZbf
import Derived.Test.YtjlflmbifeocbaaZbj
import Derived.Test.YtjlflmbifeocbaaDrawSl
import Derived.Test.YtjlflmbifeocbaaDrawS5
import Derived.Test.YtjlflmbifeocbaaZbh
namespace Go.Proofs.Ytjlflmbifeocbaa
open Go.RowKit

theorem sameF_iff {f g : Fl} : sameF f g = true ↔ f = g := by
  obtain ⟨f1, f2, f3⟩ := f
  obtain ⟨g1, g2, g3⟩ := g
  simp only [sameF, Bool.and_eq_true, beq_iff_eq, Fl.mk.injEq]
  constructor
  · rintro ⟨⟨rfl, h⟩, rfl⟩
    exact ⟨rfl, WideShapes.bytes_inj (by rw [← Lib.toList_data, ← Lib.toList_data]; exact h), rfl⟩
  · rintro ⟨rfl, rfl, rfl⟩; exact ⟨⟨rfl, rfl⟩, rfl⟩
theorem sameF_not {f g : Fl} : sameF f g = false ↔ f ≠ g := by
  rw [← Bool.not_eq_true, sameF_iff]
theorem at_mem {ts : List En} (h : Asc ts) {e : En} (he : e ∈ ts) : atL ts e.path = ⟨true, e.text, e.runs⟩ := by
  unfold atL
  cases hf : ts.find? (fun x => x.path.toList == e.path.toList) with
  | none =>
    rw [List.find?_eq_none] at hf
    exact absurd (eqb_iff.2 rfl) (hf e he)
  | some x =>
    have h1 : x ∈ ts := List.mem_of_find?_eq_some hf
    have h2 : x.path = e.path := eqb_iff.1 (by have h0 := List.find?_some hf; exact h0)
    have h3 : x = e := by
      obtain ⟨i, hi, rfl⟩ := List.getElem_of_mem h1
      obtain ⟨j, hj, rfl⟩ := List.getElem_of_mem he
      rcases Nat.lt_trichotomy i j with h' | h' | h'
      · exact absurd h2 (less_ne (List.pairwise_iff_getElem.1 h i j hi hj h'))
      · subst h'; rfl
      · exact absurd h2.symm (less_ne (List.pairwise_iff_getElem.1 h j i hj hi h'))
    rw [h3]
theorem at_cases (ts : List En) (p : ByteArray) : (atL ts p = noFl ∧ ∀ e ∈ ts, e.path ≠ p) ∨ ∃ e ∈ ts, e.path = p ∧ atL ts p = ⟨true, e.text, e.runs⟩ := by
  unfold atL
  cases hf : ts.find? (fun x => x.path.toList == p.toList) with
  | none =>
    rw [List.find?_eq_none] at hf
    exact .inl ⟨rfl, fun e he e' => hf e he (eqb_iff.2 e')⟩
  | some x => exact .inr ⟨x, List.mem_of_find?_eq_some hf, eqb_iff.1 (by have h0 := List.find?_some hf; exact h0), rfl⟩
theorem at_there {ts : List En} {p : ByteArray} (h : (atL ts p).there = true) : (⟨p, (atL ts p).text, (atL ts p).runs⟩ : En) ∈ ts := by
  rcases at_cases ts p with ⟨h1, _⟩ | ⟨e, h1, rfl, h2⟩
  · rw [h1] at h; cases h
  · rw [h2]; exact h1
end Go.Proofs.Ytjlflmbifeocbaa

namespace Go.Proofs.Ytjlflmbifeocbaa
open Go.RowKit

def UndoRel (cs us : List Ch) : Prop := (ValidP cs ∧ us = cs.map flipC) ∨ (¬ ValidP cs ∧ us = [])
theorem undo_one {cs us us' : List Ch} (h : UndoRel cs us) (h' : UndoRel cs us') : us' = us := by
  rcases h with ⟨h, rfl⟩ | ⟨h, rfl⟩ <;> rcases h' with ⟨h', rfl⟩ | ⟨h', rfl⟩ <;> first | rfl | exact absurd h h' | exact absurd h' h
theorem undo_few {cs us : List Ch} (h : UndoRel cs us) : us.length ≤ cs.length := by
  rcases h with ⟨_, rfl⟩ | ⟨_, rfl⟩ <;> simp
def UndoPost (cs : List Ch) (w : World) (e : Ending) (w' : World) : Prop :=
  ∃ us, UndoRel cs us ∧ (∃ ad cap, e = .returned (.agg #[.slice ad us.length cap]) ∧ CL w.heap.size w' ad us) ∧ Below w.heap.size w w'
theorem flips_take {cs : List Ch} {k : Nat} (hk : k < cs.length) : (cs.take (k + 1)).map flipC = (cs.take k).map flipC ++ [flipC cs[k]] := by
  rw [List.take_succ_eq_append_getElem hk, List.map_append]; rfl

end Go.Proofs.Ytjlflmbifeocbaa

namespace Go.Proofs.Ytjlflmbifeocbaa
open Go.RowKit

/-- The paths at which two trees are not alike, of a list. -/
def diffNs (ts us : List En) (ns : List ByteArray) : List ByteArray := ns.filter fun p => !sameF (atL ts p) (atL us p)
theorem diffN_eq (ts us : List En) : ∀ ns : List ByteArray, diffN ts us ns = (diffNs ts us ns).map (diffC ts us)
  | [] => rfl
  | p :: ns => by
    have ih := diffN_eq ts us ns
    unfold diffN diffNs at ih ⊢
    rw [List.flatMap_cons, List.filter_cons, ih]
    cases sameF (atL ts p) (atL us p) <;> simp
theorem diffNs_unique {ts us : List En} {ns ms : List ByteArray} (h1 : AscN ns) (h2 : AscN ms) (h : ∀ p, sameF (atL ts p) (atL us p) = false → (p ∈ ns ↔ p ∈ ms)) : diffN ts us ns = diffN ts us ms := by
  rw [diffN_eq, diffN_eq]
  congr 1
  refine ascN_unique (List.Pairwise.filter _ h1) (List.Pairwise.filter _ h2) fun p => ?_
  unfold diffNs
  simp only [List.mem_filter, Bool.not_eq_true']
  exact ⟨fun ⟨h3, h4⟩ => ⟨(h p h4).1 h3, h4⟩, fun ⟨h3, h4⟩ => ⟨(h p h4).2 h3, h4⟩⟩
theorem paths_mem (ts us : List En) : AscN (pathsL [ts, us]) ∧ ∀ p, p ∈ pathsL [ts, us] ↔ (∃ e ∈ ts, e.path = p) ∨ ∃ e ∈ us, e.path = p := by
  have h1 := addP_asc (l := []) List.Pairwise.nil ts
  have h2 := addP_asc h1.1 us
  refine ⟨h2.1, fun p => ?_⟩
  show p ∈ addP (addP [] ts) us ↔ _
  rw [h2.2, h1.2]
  simp
theorem paths_differ {ts us : List En} {p : ByteArray} (h : sameF (atL ts p) (atL us p) = false) : (∃ e ∈ ts, e.path = p) ∨ ∃ e ∈ us, e.path = p := by
  rcases at_cases ts p with ⟨h1, _⟩ | ⟨e, h1, h2, _⟩
  · rcases at_cases us p with ⟨h3, _⟩ | ⟨e, h3, h4, _⟩
    · rw [h1, h3, sameF_iff.2 rfl] at h; cases h
    · exact .inr ⟨e, h3, h4⟩
  · exact .inl ⟨e, h1, h2⟩
theorem diff_mem {ts us : List En} (c : Ch) : c ∈ diffL ts us ↔ ∃ p, sameF (atL ts p) (atL us p) = false ∧ c = diffC ts us p := by
  unfold diffL
  rw [diffN_eq]
  unfold diffNs
  simp only [List.mem_map, List.mem_filter, Bool.not_eq_true']
  constructor
  · rintro ⟨p, ⟨_, h⟩, rfl⟩; exact ⟨p, h, rfl⟩
  · rintro ⟨p, h, rfl⟩; exact ⟨p, ⟨((paths_mem ts us).2 p).2 (paths_differ h), h⟩, rfl⟩
theorem diff_asc (ts us : List En) : AscK Ch.path (diffL ts us) := by
  unfold diffL
  rw [diffN_eq]
  exact List.Pairwise.map _ (fun _ _ h => h) (List.Pairwise.filter _ (paths_mem ts us).1)
theorem diff_len {ts us : List En} (h1 : ts.length ≤ 100) (h2 : us.length ≤ 100) : (diffL ts us).length ≤ 200 := by
  have h3 := diffN_len ts us (pathsL [ts, us])
  have h4 := addP_len [] ts ts.length (Nat.le_refl _)
  have h5 := addP_len (addP [] ts) us us.length (Nat.le_refl _)
  rw [List.take_length] at h4 h5
  have h6 : pathsL [ts, us] = addP (addP [] ts) us := rfl
  unfold diffL
  rw [h6] at h3 ⊢
  simp only [List.length_nil] at h4
  omega
theorem validP_mk {cs : List Ch} (h1 : cs.length ≤ 200) (h2 : ∀ c ∈ cs, chOk c = true) (h3 : AscK Ch.path cs) : ValidP cs :=
  ⟨h1, fun i hi => ⟨hi, h2 _ (List.getElem_mem hi), fun j hj hj' => List.pairwise_iff_getElem.1 h3 j i hj' hi (by omega)⟩⟩
theorem at_ok {ts : List En} (h : ValidTs ts) (p : ByteArray) : flOk (atL ts p) = true := by
  rcases at_cases ts p with ⟨h1, _⟩ | ⟨e, h1, _, h2⟩
  · rw [h1]
    have h2 : (⟨#[]⟩ : ByteArray).size ≤ 1500 := Nat.zero_le _
    simp [flOk, noFl, h2]
  · rw [h2]
    have h3 := valid_enF h h1
    simp only [enOk, Bool.and_eq_true, decide_eq_true_eq] at h3
    simp [flOk, h3.2]
theorem diff_valid {ts us : List En} (ht : ValidTs ts) (hu : ValidTs us) : ValidP (diffL ts us) := by
  refine validP_mk (diff_len ht.1 hu.1) (fun c hc => ?_) (diff_asc ts us)
  obtain ⟨p, h, rfl⟩ := (diff_mem c).1 hc
  have hp : pathOk pathB p = true := by
    rcases paths_differ h with ⟨e, he, rfl⟩ | ⟨e, he, rfl⟩
    · have h3 := valid_enF ht he
      simp only [enOk, Bool.and_eq_true] at h3
      exact h3.1
    · have h3 := valid_enF hu he
      simp only [enOk, Bool.and_eq_true] at h3
      exact h3.1
  simp only [chOk, diffC, Bool.and_eq_true, Bool.not_eq_true']
  exact ⟨⟨⟨hp, at_ok ht p⟩, at_ok hu p⟩, h⟩
theorem diff_app {ts us : List En} (ht : Asc ts) (hu : Asc us) : AppRel ts (diffL ts us) us := by
  refine ⟨hu, fun e => ?_⟩
  constructor
  · intro he
    have h1 := at_mem hu he
    cases hs : sameF (atL ts e.path) (atL us e.path) with
    | false => exact .inl ⟨diffC ts us e.path, (diff_mem _).2 ⟨_, hs, rfl⟩, by show (atL us e.path).there = true; rw [h1], by show e = ⟨e.path, (atL us e.path).text, (atL us e.path).runs⟩; rw [h1]⟩
    | true =>
      have h2 := sameF_iff.1 hs
      rw [h1] at h2
      have h3 := at_there (ts := ts) (p := e.path) (by rw [h2])
      rw [h2] at h3
      refine .inr ⟨h3, fun c hc e' => ?_⟩
      obtain ⟨p, h4, rfl⟩ := (diff_mem c).1 hc
      have e2 : p = e.path := e'
      rw [e2, hs] at h4
      cases h4
  · rintro (⟨c, hc, h1, rfl⟩ | ⟨h1, h2⟩)
    · obtain ⟨p, h4, rfl⟩ := (diff_mem c).1 hc
      exact at_there h1
    · have h3 := at_mem ht h1
      cases hs : sameF (atL ts e.path) (atL us e.path) with
      | false => exact absurd rfl (h2 _ ((diff_mem _).2 ⟨e.path, hs, rfl⟩))
      | true =>
        have h4 := sameF_iff.1 hs
        rw [h3] at h4
        have h5 := at_there (ts := us) (p := e.path) (by rw [← h4])
        rw [← h4] at h5
        exact h5
theorem diff_apply {ts us : List En} (ht : ValidTs ts) (hu : ValidTs us) : ApplyRel ts (diffL ts us) us 0 :=
  .inr ⟨ht, diff_valid ht hu, .inr ⟨fun x hx => by
    obtain ⟨p, _, rfl⟩ := (diff_mem x).1 hx
    exact sameF_iff.2 rfl, us, diff_app (valid_asc ht) (valid_asc hu), .inr ⟨hu, rfl, rfl⟩⟩⟩
theorem diff_self (ts : List En) : diffL ts ts = [] := by
  rw [List.eq_nil_iff_forall_not_mem]
  intro c hc
  obtain ⟨p, h, _⟩ := (diff_mem c).1 hc
  rw [sameF_iff.2 rfl] at h
  cases h
theorem flip_flip (cs : List Ch) : (cs.map flipC).map flipC = cs := by
  rw [List.map_map]
  conv => rhs; rw [← List.map_id cs]
  rfl
theorem diff_flip (ts us : List En) : (diffL ts us).map flipC = diffL us ts := by
  have h1 : diffN us ts (pathsL [us, ts]) = diffN us ts (pathsL [ts, us]) := diffNs_unique (paths_mem us ts).1 (paths_mem ts us).1 (fun p _ => by rw [(paths_mem us ts).2, (paths_mem ts us).2]; exact ⟨fun h => h.elim .inr .inl, fun h => h.elim .inr .inl⟩)
  unfold diffL
  rw [h1, diffN_eq, diffN_eq, List.map_map]
  have h2 : ∀ p, sameF (atL ts p) (atL us p) = sameF (atL us p) (atL ts p) := fun p => by
    rw [Bool.eq_iff_iff, sameF_iff, sameF_iff]
    exact ⟨fun h => h.symm, fun h => h.symm⟩
  unfold diffNs
  simp only [h2]
  rfl
theorem undo_diff {ts us : List En} (ht : ValidTs ts) (hu : ValidTs us) {cs : List Ch} (h : UndoRel (diffL ts us) cs) : cs = diffL us ts := by
  rcases h with ⟨_, rfl⟩ | ⟨h, _⟩
  · exact diff_flip ts us
  · exact absurd (diff_valid ht hu) h
theorem fnd_diff (ts us : List En) (n : ByteArray) : fnd Ch.path (diffL ts us) n = if sameF (atL ts n) (atL us n) = true then none else some (diffC ts us n) := by
  cases hf : fnd Ch.path (diffL ts us) n with
  | none =>
    split
    · rfl
    · rename_i h
      unfold fnd at hf
      rw [List.find?_eq_none] at hf
      exact absurd (eqb_iff.2 rfl) (hf _ ((diff_mem _).2 ⟨n, by simpa using h, rfl⟩))
  | some c =>
    obtain ⟨h1, h2⟩ := fnd_some hf
    obtain ⟨p, h3, rfl⟩ := (diff_mem c).1 h1
    have e2 : p = n := h2
    subst e2
    rw [h3]
    rfl
theorem join_diff {ts us vs : List En} : (∀ n, clJ (diffL ts us) (diffL us vs) n = false) ∧ joinN (diffL ts us) (diffL us vs) (joinNs (diffL ts us) (diffL us vs)) = diffL ts vs := by
  have hout : ∀ n ∈ joinNs (diffL ts us) (diffL us vs), outJ (diffL ts us) (diffL us vs) n = if sameF (atL ts n) (atL vs n) = true then [] else [diffC ts vs n] := by
    intro n hn
    unfold outJ
    rw [fnd_diff, fnd_diff]
    cases h1 : sameF (atL ts n) (atL us n) with
    | true =>
      have e1 := sameF_iff.1 h1
      cases h2 : sameF (atL us n) (atL vs n) with
      | true =>
        exfalso
        rcases ((joinNs_mem _ _).2 n).1 hn with ⟨c, hc, rfl⟩ | ⟨c, hc, rfl⟩
        · obtain ⟨p, h3, rfl⟩ := (diff_mem c).1 hc
          have h4 : sameF (atL ts p) (atL us p) = true := h1
          rw [h3] at h4; cases h4
        · obtain ⟨p, h3, rfl⟩ := (diff_mem c).1 hc
          have h4 : sameF (atL us p) (atL vs p) = true := h2
          rw [h3] at h4; cases h4
      | false =>
        rw [e1, h2]
        simp [outJ2, diffC, e1]
    | false =>
      cases h2 : sameF (atL us n) (atL vs n) with
      | true =>
        have e2 := sameF_iff.1 h2
        rw [← e2, h1]
        simp [outJ2, diffC, e2]
      | false =>
        simp only [Bool.false_eq_true, if_false, outJ2, diffC]
  refine ⟨fun n => ?_, ?_⟩
  · unfold clJ
    rw [fnd_diff, fnd_diff]
    split
    · rfl
    · split
      · rfl
      · show (!sameF (atL us n) (atL us n)) = false
        rw [sameF_iff.2 rfl]; rfl
  · have h1 : joinN (diffL ts us) (diffL us vs) (joinNs (diffL ts us) (diffL us vs)) = diffN ts vs (joinNs (diffL ts us) (diffL us vs)) := by
      unfold joinN diffN
      rw [List.flatMap_def, List.flatMap_def, List.map_congr_left hout]
    rw [h1]
    refine diffNs_unique (joinNs_mem _ _).1 (paths_mem ts vs).1 fun p hp => ?_
    constructor
    · exact fun _ => ((paths_mem ts vs).2 p).2 (paths_differ hp)
    · intro _
      rw [(joinNs_mem _ _).2]
      cases h1 : sameF (atL ts p) (atL us p) with
      | false => exact .inl ⟨diffC ts us p, (diff_mem _).2 ⟨p, h1, rfl⟩, rfl⟩
      | true =>
        refine .inr ⟨diffC us vs p, (diff_mem _).2 ⟨p, ?_, rfl⟩, rfl⟩
        rw [← sameF_iff.1 h1]
        exact hp
theorem join_diffs {ts us vs : List En} (ht : ValidTs ts) (hu : ValidTs us) (hv : ValidTs vs) : JoinRel (diffL ts us) (diffL us vs) (diffL ts vs) true :=
  .inr ⟨diff_valid ht hu, diff_valid hu hv, .inr ⟨fun n _ => join_diff.1 n, .inr ⟨by rw [join_diff.2]; exact diff_len ht.1 hv.1, join_diff.2.symm, rfl⟩⟩⟩
end Go.Proofs.Ytjlflmbifeocbaa

namespace Go.Proofs.Ytjlflmbifeocbaa
open Go.RowKit

theorem atL_tiny {P T : Nat} {ts : List En} (h : Tiny P T ts) (p : ByteArray) : (atL ts p).text.size ≤ T := by
  unfold atL
  split
  · rename_i e he
    exact (h e (List.mem_of_find?_eq_some he)).2
  · exact Nat.zero_le _
theorem diff_tiny {P T : Nat} {ts us : List En} {cs : List Ch} (h : DiffRel ts us cs) (ht : Tiny P T ts) (hu : Tiny P T us) : TinyC P T cs ∧ cs.length ≤ 200 := by
  rcases h with ⟨h3, h4, rfl⟩ | ⟨_, rfl⟩
  · refine ⟨fun c hc => ?_, by have := diff_len h3.1 h4.1; omega⟩
    obtain ⟨p, h5, rfl⟩ := (diff_mem c).1 hc
    refine ⟨?_, atL_tiny ht p, atL_tiny hu p⟩
    rcases paths_differ h5 with ⟨e, he, rfl⟩ | ⟨e, he, rfl⟩
    · exact (ht e he).1
    · exact (hu e he).1
  · exact ⟨fun c hc => (by cases hc), by simp⟩
theorem valid_text {ts : List En} (h : ValidTs ts) : ∀ e ∈ ts, e.text.size ≤ 1500 := fun e he => by
  obtain ⟨i, hi, rfl⟩ := List.mem_iff_getElem.1 he
  obtain ⟨_, h1, _⟩ := h.2 i hi
  simp [enOk] at h1
  exact h1.2
theorem apply_tiny {P T : Nat} {ts us : List En} {cs : List Ch} {c : Int} (h : ApplyRel ts cs us c) (ht : Tiny P T ts) (hc : TinyC P T cs) : Tiny P 1500 us ∧ us.length ≤ 100 := by
  rcases h with ⟨_, rfl, _⟩ | ⟨_, _, ⟨_, rfl, _⟩ | ⟨_, vs, hA, ⟨_, rfl, _⟩ | ⟨hv, rfl, _⟩⟩⟩
  · exact ⟨fun e he => (by cases he), by simp⟩
  · exact ⟨fun e he => (by cases he), by simp⟩
  · exact ⟨fun e he => (by cases he), by simp⟩
  · refine ⟨fun e he => ⟨?_, valid_text hv e he⟩, hv.1⟩
    rcases (hA.mem e).1 he with ⟨x, hx, _, rfl⟩ | ⟨h1, _⟩
    · exact (hc x hx).1
    · exact (ht e h1).1
end Go.Proofs.Ytjlflmbifeocbaa

namespace Go.Proofs.Ytjlflmbifeocbaa
open Go.RowKit

theorem code_laterJ {w w' : World} {a : Option Addr} {cap : Nat} {zs : List Int} (h : Code0 w a cap zs) (hb : Below w.heap.size w w') : Code0 w' a cap zs :=
  ⟨by
    rcases h.bytes with h0 | ⟨b, off, h1, h2, h3⟩
    · exact .inl h0
    · exact .inr ⟨b, off, h1, Nat.lt_of_lt_of_le h2 hb.size, fun i hi => cell_later hb (h3 i hi)⟩, h.len, h.cap, h.wf⟩
theorem draw6_pat {ts : List En} {lo : Nat} {ad : Option Addr} {cap : Nat} {cs : List Ch} {w : World} (h : patQ ts lo ad cap cs w) (hT : Tiny 40 20 ts) : TinyC 100 1620 cs ∧ cs.length ≤ 200 := by
  obtain ⟨_, _, us, h3, _, h5⟩ := h
  exact diff_tiny h3 (hT.wide (by omega) (by omega)) h5
/-- What DrawApply gives. -/
def DrawnA (w : World) (e : Ending) (w' : World) : Prop :=
  ∃ (t : Tr) (q : Pt), e = .returned (.tuple #[.agg #[.slice t.ad t.ts.length t.cp], .agg #[.slice q.ad q.cs.length q.cp]]) ∧ ES w' t.ad t.ts ∧ CS w' q.ad q.cs ∧ TQ t ∧ NilOk t.ad t.cp ∧ t.ts.length ≤ t.cp ∧ q.cs.length ≤ q.cp ∧ Below w.heap.size w w'
def dsAp : List Nat := [46, 47, 1000, 1001]
theorem ndAp : dsAp.Nodup := by decide

set_option maxRecDepth 100000 in
set_option maxHeartbeats 8000000 in
theorem drawApply_any (a : Option Addr) (cap : Nat) (zs : List Int) (w : World) (h : Code0 w a cap zs) :
    Calls Try.prog 16 #[.slice a zs.length cap] w (DrawnA w) := by
  have hal : Below w.heap.size w ((w.alloc (.cells #[.slice none 0 0] 25)).alloc (.cells #[.slice none 0 0] 30)) := ((Below.refl _ _).alloc (Nat.le_refl _) _).alloc (by simp) _
  have a0 : ((w.alloc (.cells #[.slice none 0 0] 25)).alloc (.cells #[.slice none 0 0] 30)).cell? ⟨w.heap.size, 0, none⟩ = some (.slice none 0 0) ∧ ((w.alloc (.cells #[.slice none 0 0] 25)).alloc (.cells #[.slice none 0 0] 30)).frozen? ⟨w.heap.size, 0, none⟩ = false := by simp [go_sem]
  have b0 : ((w.alloc (.cells #[.slice none 0 0] 25)).alloc (.cells #[.slice none 0 0] 30)).cell? ⟨w.heap.size + 1, 0, none⟩ = some (.slice none 0 0) ∧ ((w.alloc (.cells #[.slice none 0 0] 25)).alloc (.cells #[.slice none 0 0] 30)).frozen? ⟨w.heap.size + 1, 0, none⟩ = false := by simp [go_sem]
  have hsz : ((w.alloc (.cells #[.slice none 0 0] 25)).alloc (.cells #[.slice none 0 0] 30)).heap.size = w.heap.size + 1 + 1 := by simp
  have hop := open_any a cap zs _ (code_laterJ h hal)
  go_enter Try.func16, Try.ntmps16
  go_wp2_with fail
  refine hop.mono ?_
  rintro e w1 ⟨rfl, hb1, hs1, zs', hR1⟩
  rw [hsz] at hR1 hs1 ⊢
  have hRB : RB w (w.heap.size + 1 + 1) w.heap.size (w.heap.size + 1) a cap zs' 0 (.slice none 0 0) (.slice none 0 0) w1 :=
    ⟨hR1, hal.trans (hb1.mono hal.size), cell_later hb1 a0.1, (hb1.frozen (p := ⟨w.heap.size, 0, none⟩) (World.block_lt_of_cell? _ ⟨w.heap.size, 0, none⟩ a0.1)).trans a0.2, cell_later hb1 b0.1, (hb1.frozen (p := ⟨w.heap.size + 1, 0, none⟩) (World.block_lt_of_cell? _ ⟨w.heap.size + 1, 0, none⟩ b0.1)).trans b0.2, by omega⟩
  obtain ⟨g, hg⟩ : ∃ g, g = w.heap.size + 1 + 1 := ⟨_, rfl⟩
  obtain ⟨r3, hr3⟩ : ∃ r3, r3 = w.heap.size + 1 := ⟨_, rfl⟩
  obtain ⟨r2, hr2⟩ : ∃ r2, r2 = w.heap.size := ⟨_, rfl⟩
  have hRB' : RB w g r2 r3 a cap zs' 0 (.slice none 0 0) (.slice none 0 0) w1 := by rw [hg, hr2, hr3]; exact hRB
  rw [← hg, ← hr3, ← hr2]
  have hgw : g < w1.heap.size := hRB'.rd.lt
  clear hRB hop hal a0 b0 hsz hb1 hs1 hR1 hg hr2 hr3
  have hdr := l6Draw_any g a cap zs' 0 w1 hRB'.rd (by omega)
  go_wp2_with fail
  refine hdr.mono ?_
  rintro e w2 ⟨t5, adp, cpp, cs, rfl, hel, hrm, hn, hA, hT, hNil, hpq, ⟨⟨p2, hp2, hR2⟩, hg2⟩⟩
  have hRB2 := hRB'.step hg2 hR2
  have hb5 := below_oneD w2 (.cells #[.slice t5.ad t5.ts.length t5.cp] 25)
  have hb6 := below_oneD (w2.alloc (.cells #[.slice t5.ad t5.ts.length t5.cp] 25)) (.cells #[.slice adp cs.length cpp] 30)
  have hX5 := (TB.new (t := t5) hel hrm hNil).later hb6
  have hX6 : PB w1.heap.size w2.heap.size (w2.heap.size + 1) ⟨adp, cpp, cs⟩ ((w2.alloc (.cells #[.slice t5.ad t5.ts.length t5.cp] 25)).alloc (.cells #[.slice adp cs.length cpp] 30)) := ⟨by simp, by simp, (hpq.1.below hb5).below hb6, PB.upOf (t := ⟨adp, cpp, cs⟩) hpq.1, hpq.2.1⟩
  have hsp := draw6_pat hpq hT
  have hRB3 := (hRB2.later hb5).later hb6
  have hs2 := hg2.size
  have HA : Keep (Asc t5.ts ∧ Tiny 40 20 t5.ts ∧ t5.ts.length ≤ 100) := ⟨⟨hA, hT, hn⟩⟩
  have HP : Keep (TinyC 100 1620 cs ∧ cs.length ≤ 200) := ⟨hsp⟩
  clear hdr hel hg2 hR2 hA hT hpq hsp hRB' hRB2 hb5 hb6 hNil hrm hn
  go_upto_region 3 with fail
  generalize hW3 : (w2.alloc (.cells #[.slice t5.ad t5.ts.length t5.cp] 25)).alloc (.cells #[.slice adp cs.length cpp] 30) = W3 at *
  obtain ⟨b6, hb6⟩ : ∃ b6, b6 = w2.heap.size + 1 := ⟨_, rfl⟩
  rw [← hb6] at hX6 ⊢
  generalize hb5 : w2.heap.size = b5 at *
  generalize hlo : w1.heap.size = lo at *
  have HO : Keep (r3 < g ∧ r2 < r3 ∧ g < lo ∧ lo ≤ b5 ∧ b6 = b5 + 1 ∧ p2 ≤ 500 ∧ w.heap.size ≤ r2) := ⟨by have := hRB3.ord; omega⟩
  clear hW3 hb6 hb5 hlo hs2 hgw hp2
  go_cut [16] (fun v wx => ∃ y : Nat, v = .int .i64 y ∧ y < 6 ∧ RB w g r2 r3 a cap zs' (p2 + 1) (.slice none 0 0) (.slice none 0 0) wx ∧ TB lo b5 b5 t5 wx ∧ PB lo b5 b6 ⟨adp, cpp, cs⟩ wx)
  case first =>
    go_wp2_with fail
    refine (pick_any g a cap zs' p2 6 W3 hRB3.rd (by omega) (by omega) (by have := HO.out; omega)).mono ?_
    rintro e w4 ⟨y, rfl, hy, hg4, hR4⟩
    have HR : Keep _ := ⟨hRB3.step hg4 hR4⟩
    have HT5 : Keep _ := ⟨hX5.grown hg4 (by have := HO.out; omega) (by have := HO.out; omega)⟩
    have HP6 : Keep _ := ⟨hX6.grown hg4 (by have := HO.out; omega) (by have := HO.out; omega)⟩
    clear hg4 hR4 hRB3 hX5 hX6
    go_wp2_with fail
    go_meet
    case rel => exact ⟨y, rfl, hy, HR.out, HT5.out, HP6.out⟩
  case rest =>
    clear hRB3 hX5 hX6
    obtain ⟨y, rfl, hy, hRB, hX5, hX6⟩ := hcut
    rename_i K1 hk1 K2 hk2
    refine hk2 _ _ ?_
    go_cut [17] (fun _ wx => ∃ (px lo5 hi5 lo6 hi6 : Nat) (t : Tr) (q : Pt), RB w g r2 r3 a cap zs' px (.slice none 0 0) (.slice none 0 0) wx ∧ TB lo5 hi5 b5 t wx ∧ PB lo6 hi6 b6 q wx ∧ TQ t ∧ g < lo5 ∧ g < lo6)
    case first =>
      have HQ5 : Keep (TQ t5) := ⟨⟨by have := HA.out; omega, HA.out.2.1.wide (by omega) (by omega)⟩⟩
      have hgl : b6 < wc.heap.size := hX6.lt
      by_cases y0 : y = 0
      · have hB0 : ((y : Int) == 0) = true := by simp; omega
        clear y0
        have z0 := hX6.c
        have z1 := hX6.f
        dsimp only at z0
        go_wp2_with fail
        refine (l6Spoil_any g a cap zs' (p2 + 1) adp cpp cs wc hRB.rd (by have := HO.out; omega) hX6.el.cs (HP.out.1.wide (by omega) (by omega)) (by have := HP.out; omega)).mono ?_
        rintro e w5 ⟨ad, cp, ds, rfl, hcl, hrm, hl, hTd, ⟨⟨p5, hp5, hR5⟩, hg5⟩⟩
        have hRB5 := hRB.step hg5 hR5
        have h55 := hX5.grown hg5 (by have := HO.out; omega) (by have := HO.out; omega)
        have h65 := hX6.grown hg5 (by have := HO.out; omega) (by have := HO.out; omega)
        have hup : (⟨ad, cp, ds⟩ : Pt).cs = [] ∨ ∃ k, blk (⟨ad, cp, ds⟩ : Pt).ad = some k ∧ k < w5.heap.size := PB.upOf (t := ⟨ad, cp, ds⟩) hcl
        have HF : Keep _ := ⟨(⟨hRB5.box (k := b6) (.slice ad ds.length cp) (by have := HO.out; omega), h55.grown (grown_set0 w5 b6 0 (.slice ad ds.length cp)) (by have := HO.out; omega) (by have := HO.out; omega), h65.put (u := ⟨ad, cp, ds⟩) hcl hup hrm (by omega)⟩ : _ ∧ _ ∧ _)⟩
        have z3 := h65.c
        have z4 := h65.f
        dsimp only at z3
        have HSZ : Keep (g < wc.heap.size ∧ g < lo) := ⟨by have := HO.out; omega⟩
        clear z0 z1 h55 h65 hRB5 hX5 hX6 hRB hcl hup hg5 hR5
        go_wp2_with fail
        go_meet
        case rel => exact ⟨p5, _, _, _, _, t5, ⟨ad, cp, ds⟩, HF.out.1, HF.out.2.1, HF.out.2.2, HQ5.out, HSZ.out.2, HSZ.out.1⟩
      have hB0 : ((y : Int) == 0) = false := by simp; omega
      by_cases y1 : y = 1
      · have hB1 : ((y : Int) == 1) = true := by simp; omega
        clear y0 y1
        have z0 := hX5.c
        have z1 := hX5.f
        go_wp2_with fail
        refine (l5NearA_any g a cap zs' (p2 + 1) t5.ad t5.cp t5.ts wc hRB.rd (by have := HO.out; omega) hX5.el.es hX5.nl (HA.out.2.1.wide (by omega) (by omega)) (by have := HA.out; omega)).mono ?_
        rintro e w5 ⟨ad, cp, us, rfl, hel', hn', hT', hNil', ⟨⟨p5, hp5, hR5⟩, hg5⟩, _, hrm'⟩
        have hRB5 := hRB.step hg5 hR5
        have h55 := hX5.grown hg5 (by have := HO.out; omega) (by have := HO.out; omega)
        have h65 := hX6.grown hg5 (by have := HO.out; omega) (by have := HO.out; omega)
        have hup : (⟨ad, cp, us⟩ : Tr).ts = [] ∨ ∃ k, blk (⟨ad, cp, us⟩ : Tr).ad = some k ∧ k < w5.heap.size := TB.upOf (t := ⟨ad, cp, us⟩) hel'
        have HF : Keep _ := ⟨(⟨hRB5.box (k := b5) (.slice ad us.length cp) (by have := HO.out; omega), h55.put (u := ⟨ad, cp, us⟩) hel' hup hrm' hNil' (by have := HO.out; omega), h65.grown (grown_set0 w5 b5 0 (.slice ad us.length cp)) (by have := HO.out; omega) (by have := HO.out; omega)⟩ : _ ∧ _ ∧ _)⟩
        have z3 := h55.c
        have z4 := h55.f
        have HSZ : Keep (g < wc.heap.size ∧ g < lo) := ⟨by have := HO.out; omega⟩
        have HQ : Keep (TQ ⟨ad, cp, us⟩) := ⟨⟨by show us.length ≤ 300; omega, hT'.wide (by omega) (by omega)⟩⟩
        clear z0 z1 h55 h65 hRB5 hX5 hX6 hRB hel' hup hg5 hR5
        go_wp2_with fail
        go_meet
        case rel => exact ⟨p5, _, _, _, _, ⟨ad, cp, us⟩, ⟨adp, cpp, cs⟩, HF.out.1, HF.out.2.1, HF.out.2.2, HQ.out, HSZ.out.1, HSZ.out.2⟩
      have hB1 : ((y : Int) == 1) = false := by simp; omega
      by_cases y2 : y = 2
      · have hB2 : ((y : Int) == 2) = true := by simp; omega
        clear y0 y1 y2
        have z0 := hX6.c
        have z1 := hX6.f
        dsimp only at z0
        by_cases h0 : (0 : Int) < cs.length
        · have z2 := hX5.c
          have z3 := hX5.f
          go_wp2_with fail
          refine (l5SetC_any t5.ad t5.cp t5.ts ⟨⟨#[99]⟩, ⟨#[]⟩, false⟩ wc hX5.el.es (by have := HA.out; omega) HA.out.1).mono ?_
          rintro e w5 ⟨ad, cp, us, rfl, hrel, hel', hbl, hlen', hrm'⟩
          have hne := NilOk.ne (cp := cp) hel' (setRel_ne hrel)
          have h55 := hX5.later hbl
          have h65 := hX6.later hbl
          have hRB5 := hRB.later hbl
          have hup : (⟨ad, cp, us⟩ : Tr).ts = [] ∨ ∃ k, blk (⟨ad, cp, us⟩ : Tr).ad = some k ∧ k < w5.heap.size := TB.upOf (t := ⟨ad, cp, us⟩) hel'
          have hQ : TQ ⟨ad, cp, us⟩ := ⟨by show us.length ≤ 300; have := HA.out; omega, ((HA.out.2.1.wide (Nat.le_refl _) (Nat.le_refl _)).setRel ⟨by show 1 ≤ 40; omega, Nat.zero_le _⟩ hrel).wide (by omega) (by omega)⟩
          have g5 := h55.put (u := ⟨ad, cp, us⟩) hel' hup hrm' hne (by have := HO.out; omega)
          have g6 := h65.grown (grown_set0 w5 b5 0 (.slice ad us.length cp)) (by have := HO.out; omega) (by have := HO.out; omega)
          have gR := hRB5.box (k := b5) (.slice ad us.length cp) (by have := HO.out; omega)
          have z5 := h55.c
          have z6 := h55.f
          have hsz5 := hbl.size
          clear h55 h65 hRB5 hX5 hX6 hRB hel' hup hbl z0 z1 z2 z3
          dsimp only at g5 g6
          go_upto_region 11 with fail
          have HS6 : Keep ((w5.setCell ⟨b5, 0, none⟩ (.slice ad us.length cp)).heap.size = w5.heap.size) := ⟨by simp⟩
          generalize w5.setCell ⟨b5, 0, none⟩ (.slice ad us.length cp) = w6 at *
          have hb7 := below_oneD w6 (.cells #[.string ⟨#[99, 47, 120]⟩, .bool false, .string ⟨#[]⟩, .bool false, .bool true, .string ⟨#[]⟩, .bool false] 68)
          have hb8 := below_oneD (w6.alloc (.cells #[.string ⟨#[99, 47, 120]⟩, .bool false, .string ⟨#[]⟩, .bool false, .bool true, .string ⟨#[]⟩, .bool false] 68)) (.cells #[.string ⟨#[99, 47, 120]⟩, .bool false, .string ⟨#[]⟩, .bool false, .bool true, .string ⟨#[]⟩, .bool false] 68)
          have k5 := (g5.later hb7).later hb8
          have k6 := (g6.later hb7).later hb8
          have kR := (gR.later hb7).later hb8
          have hcl : CL (w6.heap.size + 1) ((w6.alloc (.cells #[.string ⟨#[99, 47, 120]⟩, .bool false, .string ⟨#[]⟩, .bool false, .bool true, .string ⟨#[]⟩, .bool false] 68)).alloc (.cells #[.string ⟨#[99, 47, 120]⟩, .bool false, .string ⟨#[]⟩, .bool false, .bool true, .string ⟨#[]⟩, .bool false] 68)) (some ⟨w6.heap.size + 1, 0, none⟩) [⟨⟨#[99, 47, 120]⟩, ⟨false, ⟨#[]⟩, false⟩, ⟨true, ⟨#[]⟩, false⟩⟩] := .inr ⟨w6.heap.size + 1, rfl, Nat.le_refl _, by simp, fun j => by simp, fun i hi => by
            obtain rfl : i = 0 := by simpa using hi
            exact ⟨by simp, by simp, by simp, by simp, by simp, by simp, by simp⟩⟩
          have hupq := PB.upOf (t := ⟨some ⟨w6.heap.size + 1, 0, none⟩, 1, [⟨⟨#[99, 47, 120]⟩, ⟨false, ⟨#[]⟩, false⟩, ⟨true, ⟨#[]⟩, false⟩⟩]⟩) hcl
          have HF : Keep _ := ⟨(⟨kR.box (k := b6) (.slice (some ⟨w6.heap.size + 1, 0, none⟩) 1 1) (by have := HO.out; omega), k5.grown (grown_set0 ((w6.alloc (.cells #[.string ⟨#[99, 47, 120]⟩, .bool false, .string ⟨#[]⟩, .bool false, .bool true, .string ⟨#[]⟩, .bool false] 68)).alloc (.cells #[.string ⟨#[99, 47, 120]⟩, .bool false, .string ⟨#[]⟩, .bool false, .bool true, .string ⟨#[]⟩, .bool false] 68)) b6 0 (.slice (some ⟨w6.heap.size + 1, 0, none⟩) 1 1)) (by have := HO.out; omega) (by have := HO.out; omega), k6.put (u := ⟨some ⟨w6.heap.size + 1, 0, none⟩, 1, [⟨⟨#[99, 47, 120]⟩, ⟨false, ⟨#[]⟩, false⟩, ⟨true, ⟨#[]⟩, false⟩⟩]⟩) hcl hupq (Nat.le_refl _) (by have := g6.lt; omega)⟩ : _ ∧ _ ∧ _)⟩
          have z7 := k6.c
          have z8 := k6.f
          dsimp only at z7
          have HSZ : Keep (g < wc.heap.size ∧ g < w6.heap.size + 1) := ⟨by have := HO.out; have := HS6.out; omega⟩
          clear k5 k6 kR g5 g6 gR hcl hupq hb7 hb8
          go_wp2_with fail
          go_meet
          case rel => exact ⟨_, _, _, _, _, ⟨ad, cp, us⟩, ⟨some ⟨w6.heap.size + 1, 0, none⟩, 1, [⟨⟨#[99, 47, 120]⟩, ⟨false, ⟨#[]⟩, false⟩, ⟨true, ⟨#[]⟩, false⟩⟩]⟩, HF.out.1, HF.out.2.1, HF.out.2.2, hQ, HSZ.out.1, HSZ.out.2⟩
        · have HF : Keep _ := ⟨(⟨hRB, hX5, hX6⟩ : _ ∧ _ ∧ _)⟩
          clear hRB hX5 hX6
          go_wp2_with fail
          go_meet
          case rel => exact ⟨_, _, _, _, _, t5, ⟨adp, cpp, cs⟩, HF.out.1, HF.out.2.1, HF.out.2.2, HQ5.out, by have := HO.out; omega, by have := HO.out; omega⟩
      have hB2 : ((y : Int) == 2) = false := by simp; omega
      by_cases y3 : y = 3
      · have hB3 : ((y : Int) == 3) = true := by simp; omega
        clear y0 y1 y2 y3
        have z0 := hX5.c
        have z1 := hX5.f
        go_wp2_with fail
        refine (l5SpoilB_any 40 20 100 (by omega) (by omega) (by omega) (by omega) (by omega) g a cap zs' (p2 + 1) t5.ad t5.cp t5.ts wc hRB.rd (by have := HO.out; omega) hX5.el.es hX5.nl HA.out.1 HA.out.2.1 HA.out.2.2).mono ?_
        rintro e w5 ⟨ad, cp, us, rfl, hel', hn', hT', hNil', ⟨⟨p5, hp5, hR5⟩, hg5⟩, hrm'⟩
        have hRB5 := hRB.step hg5 hR5
        have h55 := hX5.grown hg5 (by have := HO.out; omega) (by have := HO.out; omega)
        have h65 := hX6.grown hg5 (by have := HO.out; omega) (by have := HO.out; omega)
        have hup : (⟨ad, cp, us⟩ : Tr).ts = [] ∨ ∃ k, blk (⟨ad, cp, us⟩ : Tr).ad = some k ∧ k < w5.heap.size := TB.upOf (t := ⟨ad, cp, us⟩) hel'
        have HF : Keep _ := ⟨(⟨hRB5.box (k := b5) (.slice ad us.length cp) (by have := HO.out; omega), h55.put (u := ⟨ad, cp, us⟩) hel' hup hrm' hNil' (by have := HO.out; omega), h65.grown (grown_set0 w5 b5 0 (.slice ad us.length cp)) (by have := HO.out; omega) (by have := HO.out; omega)⟩ : _ ∧ _ ∧ _)⟩
        have z3 := h55.c
        have z4 := h55.f
        have HSZ : Keep (g < wc.heap.size ∧ g < lo) := ⟨by have := HO.out; omega⟩
        have HQ : Keep (TQ ⟨ad, cp, us⟩) := ⟨⟨by show us.length ≤ 300; omega, hT'.wide (by omega) (by omega)⟩⟩
        clear z0 z1 h55 h65 hRB5 hX5 hX6 hRB hel' hup hg5 hR5
        go_wp2_with fail
        go_meet
        case rel => exact ⟨p5, _, _, _, _, ⟨ad, cp, us⟩, ⟨adp, cpp, cs⟩, HF.out.1, HF.out.2.1, HF.out.2.2, HQ.out, HSZ.out.1, HSZ.out.2⟩
      have hB3 : ((y : Int) == 3) = false := by simp; omega
      have HF : Keep _ := ⟨(⟨hRB, hX5, hX6⟩ : _ ∧ _ ∧ _)⟩
      clear hRB hX5 hX6 y0 y1 y2 y3
      go_wp2_with fail
      go_meet
      case rel => exact ⟨_, _, _, _, _, t5, ⟨adp, cpp, cs⟩, HF.out.1, HF.out.2.1, HF.out.2.2, HQ5.out, by have := HO.out; omega, by have := HO.out; omega⟩
    case rest =>
      clear hRB hX5 hX6
      obtain ⟨px, lo5, hi5, lo6, hi6, t, q, hRB, hX5, hX6, hQ, hg5, hg6⟩ := hcut
      have hbd : Below wc.heap.size wc wc.drew := (Below.refl _ _).drew
      have HZ : Keep (∀ n : Nat, IZ w r2 r3 (.slice t.ad t.ts.length t.cp) (.slice q.ad q.cs.length q.cp) (fun W => TB lo5 hi5 b5 t W ∧ PB lo6 hi6 b6 q W) (Array.replicate n false) wc.drew) := ⟨fun n => ⟨by rw [getD_repl, getD_repl]; exact hRB.rc.later hbd, hX5.later hbd, hX6.later hbd⟩⟩
      clear hRB hX5 hX6 hbd
      go_upto_region 15 with fail
      refine (wpIn_wide (n := 0)).1 ?_
      refine wpIn_region_inv0 (by kernel_rfl) (by kernel_rfl) (fun T0 => EVF T0 dsAp (zTab2 (.agg #[.slice t.ad t.ts.length t.cp]) (.agg #[.slice q.ad q.cs.length q.cp])) (fun _ _ _ => True) (IZ w r2 r3 (.slice t.ad t.ts.length t.cp) (.slice q.ad q.cs.length q.cp) (fun W => TB lo5 hi5 b5 t W ∧ PB lo6 hi6 b6 q W))) ?_ ?_ ?_
      · exact ⟨Sl2.start _, HZ.out _, fun _ _ _ => trivial⟩
      · intro L a2 w9 hinv hall
        have hZ := hinv.wd
        have hz2 := hall 2 (by decide)
        have hz3 := hall 3 (by decide)
        have HXX : Keep _ := ⟨hinv.sl.act⟩
        have c2 := hZ.rb.c2
        have c3 := hZ.rb.c3
        rw [hz2] at c2
        rw [hz3] at c3
        replace c2 : w9.cell? ⟨r2, 0, none⟩ = some (.slice t.ad t.ts.length t.cp) := c2
        replace c3 : w9.cell? ⟨r3, 0, none⟩ = some (.slice q.ad q.cs.length q.cp) := c3
        have HZZ : Keep _ := ⟨hZ⟩
        clear hinv hall hZ hz2 hz3 HZ
        rw [HXX.out]
        simp only [updL, dsAp, List.contains_cons, List.contains_nil, Nat.reduceAdd, Nat.reduceBEq, Bool.or_false, cond_false, cond_true, Bool.or_true]
        go_wp2
        refine bodyPost_ret (v := .tuple #[.agg #[.slice t.ad t.ts.length t.cp], .agg #[.slice q.ad q.cs.length q.cp]]) ?_ rfl ⟨t, q, rfl, HZZ.out.ab.1.el.es, HZZ.out.ab.2.el.cs, hQ, HZZ.out.ab.1.nl, HZZ.out.ab.1.rm, HZZ.out.ab.2.rm, HZZ.out.rb.bw⟩
        go_light
        simp [results, Try.results16, go_sem, c2, c3]
      · intro L a2 w9 i o hinv hcl hL ho hdep
        have hin : i < 4 := (Array.getElem?_eq_some_iff.1 ho).1
        unfold wpOpIn
        rw [ho]
        clear hcl HZ
        match i, hin, hL, ho, hdep with
        | 0, _, hL, ho, hdep =>
          injection ho with ho; subst ho
          dsimp only
          rw [if_pos (by rfl)]
          refine ⟨fun f _ => trivial, ?_⟩
          have e0 : a2.tmps[5]?.getD undef = .pointer (some ⟨b5, 0, none⟩) := hinv.sl.old (by decide)
          have z0 : w9.cell? ⟨b5, 0, none⟩ = some (.slice t.ad t.ts.length t.cp) := hinv.wd.ab.1.c
          go_simp
          exact hinv.step ndAp (fun _ _ _ => trivial) (i := 0) (by decide) (by show 46 < 48; decide) (fun u hu => by cases hu; rfl) trivial (hinv.wd.keep (by omega) (by omega))
        | 1, _, hL, ho, hdep =>
          injection ho with ho; subst ho
          dsimp only
          rw [if_pos (by rfl)]
          refine ⟨fun f _ => trivial, ?_⟩
          have e0 : a2.tmps[6]?.getD undef = .pointer (some ⟨b6, 0, none⟩) := hinv.sl.old (by decide)
          have z0 : w9.cell? ⟨b6, 0, none⟩ = some (.slice q.ad q.cs.length q.cp) := hinv.wd.ab.2.c
          go_simp
          exact hinv.step ndAp (fun _ _ _ => trivial) (i := 1) (by decide) (by show 47 < 48; decide) (fun u hu => by cases hu; rfl) trivial (hinv.wd.keep (by omega) (by omega))
        | 2, _, hL, ho, hdep =>
          injection ho with ho; subst ho
          dsimp only
          rw [if_pos (by rfl)]
          refine ⟨fun f _ => trivial, ?_⟩
          have e2 : a2.tmps[2]?.getD undef = .pointer (some ⟨r2, 0, none⟩) := hinv.sl.old (by decide)
          have e9 : a2.tmps[46]?.getD undef = .agg #[.slice t.ad t.ts.length t.cp] := hinv.sl.new (i := 0) (by decide) rfl (hdep ⟨0, .data⟩ (by simp) rfl)
          have z0 := hinv.wd.rb.c2
          have z1 := hinv.wd.rb.f2
          go_simp
          exact hinv.skip (fun _ _ _ => trivial) (i := 2) rfl (fun _ => trivial) (hinv.wd.st2 hL (fun W v hh => ⟨hh.1.grown (grown_set0 W r2 0 v) (by have := HO.out; omega) (by have := HO.out; omega), hh.2.grown (grown_set0 W r2 0 v) (by have := HO.out; omega) (by have := HO.out; omega)⟩))
        | 3, _, hL, ho, hdep =>
          injection ho with ho; subst ho
          dsimp only
          rw [if_pos (by rfl)]
          refine ⟨fun f _ => trivial, ?_⟩
          have e2 : a2.tmps[3]?.getD undef = .pointer (some ⟨r3, 0, none⟩) := hinv.sl.old (by decide)
          have e9 : a2.tmps[47]?.getD undef = .agg #[.slice q.ad q.cs.length q.cp] := hinv.sl.new (i := 1) (by decide) rfl (hdep ⟨1, .data⟩ (by simp) rfl)
          have z0 := hinv.wd.rb.c3
          have z1 := hinv.wd.rb.f3
          go_simp
          exact hinv.skip (fun _ _ _ => trivial) (i := 3) rfl (fun _ => trivial) (hinv.wd.st3 hL (fun W v hh => ⟨hh.1.grown (grown_set0 W r3 0 v) (by have := HO.out; omega) (by have := HO.out; omega), hh.2.grown (grown_set0 W r3 0 v) (by have := HO.out; omega) (by have := HO.out; omega)⟩))
end Go.Proofs.Ytjlflmbifeocbaa

namespace Go.Proofs.Ytjlflmbifeocbaa
open Go.RowKit

theorem nil_row {W : World} {B z : Nat} {e : TypeId} {ad : Option Addr} {n cp : Nat} {xs : List Value} (h : W.ownsRow B e z (.slice ad n cp) n xs) : NilOk ad cp := by
  rcases h.2 with ⟨h0, _⟩ | ⟨_, _, _, h0, _⟩
  · injection h0 with h1 h2 h3
    exact .inr ⟨h1, h3⟩
  · injection h0 with h1
    exact .inl ⟨_, h1⟩
def LayPost6N (ts : List En) (p : ByteArray) (f : Fl) (w : World) (e : Ending) (w' : World) : Prop :=
  ∃ ad cap us, e = .returned (.agg #[.slice ad us.length cap]) ∧ LayRel ts p f us ∧ EL w.heap.size w' ad us ∧ Below w.heap.size w w' ∧ us.length ≤ ts.length + 1 ∧ NilOk ad cap

set_option maxRecDepth 100000 in
set_option maxHeartbeats 8000000 in
theorem l6LayN_any (a : Option Addr) (cap : Nat) (ts : List En) (p : ByteArray) (f : Fl) (w : World) (hts : ES w a ts) (hn : ts.length ≤ 1000000) (hA : Asc ts) :
    Calls Try.prog 24 #[.agg #[.slice a ts.length cap], .string p, .agg #[.bool f.there, .string f.text, .bool f.runs]] w fun e w' => LayPost6N ts p f w e w' := by
  obtain ⟨i0, hi, hz0, hz1, hz2⟩ := info_parts Try.infoEntry
  have hal : Below w.heap.size w ((((w.alloc (.cells #[.slice a ts.length cap] 25)).alloc (.cells #[.bool f.there, .string f.text, .bool f.runs] 54)).alloc (.cells #[.slice none 0 0] 25)).alloc (.cells #[.slice none 0 0] 25)) := ((((Below.refl _ _).alloc (Nat.le_refl _) _).alloc (by simp) _).alloc (by simp; omega) _).alloc (by simp; omega) _
  have m0 : ((((w.alloc (.cells #[.slice a ts.length cap] 25)).alloc (.cells #[.bool f.there, .string f.text, .bool f.runs] 54)).alloc (.cells #[.slice none 0 0] 25)).alloc (.cells #[.slice none 0 0] 25)).cell? ⟨w.heap.size, 0, none⟩ = some (.slice a ts.length cap) := by simp [go_sem]
  have f0 : ((((w.alloc (.cells #[.slice a ts.length cap] 25)).alloc (.cells #[.bool f.there, .string f.text, .bool f.runs] 54)).alloc (.cells #[.slice none 0 0] 25)).alloc (.cells #[.slice none 0 0] 25)).cell? ⟨w.heap.size + 1, 0, none⟩ = some (.bool f.there) := by simp [go_sem]
  have f1 : ((((w.alloc (.cells #[.slice a ts.length cap] 25)).alloc (.cells #[.bool f.there, .string f.text, .bool f.runs] 54)).alloc (.cells #[.slice none 0 0] 25)).alloc (.cells #[.slice none 0 0] 25)).cell? ⟨w.heap.size + 1, 1, none⟩ = some (.string f.text) := by simp [go_sem]
  have f2 : ((((w.alloc (.cells #[.slice a ts.length cap] 25)).alloc (.cells #[.bool f.there, .string f.text, .bool f.runs] 54)).alloc (.cells #[.slice none 0 0] 25)).alloc (.cells #[.slice none 0 0] 25)).cell? ⟨w.heap.size + 1, 2, none⟩ = some (.bool f.runs) := by simp [go_sem]
  have k0 : ((((w.alloc (.cells #[.slice a ts.length cap] 25)).alloc (.cells #[.bool f.there, .string f.text, .bool f.runs] 54)).alloc (.cells #[.slice none 0 0] 25)).alloc (.cells #[.slice none 0 0] 25)).cell? ⟨w.heap.size + 1 + 1, 0, none⟩ = some (.slice none 0 0) := by simp [go_sem]
  have kf : ((((w.alloc (.cells #[.slice a ts.length cap] 25)).alloc (.cells #[.bool f.there, .string f.text, .bool f.runs] 54)).alloc (.cells #[.slice none 0 0] 25)).alloc (.cells #[.slice none 0 0] 25)).frozen? ⟨w.heap.size + 1 + 1, 0, none⟩ = false := by simp [go_sem]
  have o0 : ((((w.alloc (.cells #[.slice a ts.length cap] 25)).alloc (.cells #[.bool f.there, .string f.text, .bool f.runs] 54)).alloc (.cells #[.slice none 0 0] 25)).alloc (.cells #[.slice none 0 0] 25)).cell? ⟨w.heap.size + 1 + 1 + 1, 0, none⟩ = some (.slice none 0 0) := by simp [go_sem]
  have of0 : ((((w.alloc (.cells #[.slice a ts.length cap] 25)).alloc (.cells #[.bool f.there, .string f.text, .bool f.runs] 54)).alloc (.cells #[.slice none 0 0] 25)).alloc (.cells #[.slice none 0 0] 25)).frozen? ⟨w.heap.size + 1 + 1 + 1, 0, none⟩ = false := by simp [go_sem]
  have os0 : w.heap.size + 1 + 1 + 1 < ((((w.alloc (.cells #[.slice a ts.length cap] 25)).alloc (.cells #[.bool f.there, .string f.text, .bool f.runs] 54)).alloc (.cells #[.slice none 0 0] 25)).alloc (.cells #[.slice none 0 0] 25)).heap.size := by simp [go_sem]
  go_enter Try.func24, Try.ntmps24
  go_wp2
  generalize (((w.alloc (.cells #[.slice a ts.length cap] 25)).alloc (.cells #[.bool f.there, .string f.text, .bool f.runs] 54)).alloc (.cells #[.slice none 0 0] 25)).alloc (.cells #[.slice none 0 0] 25) = W at *
  obtain ⟨ob, hob⟩ : ∃ ob, ob = w.heap.size + 1 + 1 + 1 := ⟨_, rfl⟩
  obtain ⟨g, hg⟩ : ∃ g, g = w.heap.size + 1 + 1 := ⟨_, rfl⟩
  obtain ⟨fb, hfb⟩ : ∃ fb, fb = w.heap.size + 1 := ⟨_, rfl⟩
  obtain ⟨ta, hta⟩ : ∃ ta, ta = w.heap.size := ⟨_, rfl⟩
  rw [← hob] at o0 of0 os0 ⊢
  rw [← hg] at k0 kf ⊢
  rw [← hfb] at f0 f1 f2 ⊢
  rw [← hta] at m0 ⊢
  have HS : Keep (ta = w.heap.size ∧ fb = w.heap.size + 1 ∧ g = w.heap.size + 2 ∧ ob = w.heap.size + 3 ∧ ob < W.heap.size) := ⟨by omega⟩
  have hst0 := OutSt.start o0 of0 os0
  clear hob hg hfb hta o0 of0 os0
  go_loopw [8] (fun i wr => ∃ (k : Nat) (v : Value), i = .int .i64 k ∧ k ≤ ts.length ∧ OutSt ob W v (offP (ts.take k) p) wr) (fun i _ => ts.length - (intOf i).toNat)
  case atStart => exact ⟨0, _, rfl, Nat.zero_le _, hst0⟩
  case round =>
    clear hst0
    obtain ⟨k, v, rfl, hk, hst⟩ := hrel
    have hbr := hst.below hal (by have := HS.out; omega)
    have mr := hst.keep m0 (by have := HS.out; omega) (by have := HS.out; omega)
    by_cases hlt : k < ts.length
    · have hlt' : (k : Int) < ts.length := by omega
      obtain ⟨b, off, rfl, hc⟩ := (hts.below hbr).at hlt
      obtain ⟨x0, x1, x2⟩ := hc k hlt
      have hwt := offP_take (p := p) hlt
      cases hq : (ts[k].path.toList == p.toList) with
      | true =>
        rw [hq] at hwt
        simp only [if_true] at hwt
        have HW : Keep (offP (ts.take (k + 1)) p = offP (ts.take k) p) := ⟨hwt⟩
        have hq2 : (ts[k].path.toList != p.toList) = false := by simpa using hq
        clear hwt hc
        go_wp2
        go_roundw
        case rel => exact ⟨k + 1, v, by congr 1, hlt, by rw [HW.out]; exact hst⟩
        case measure => simp only [intOf]; omega
      | false =>
        rw [hq] at hwt
        simp only [Bool.false_eq_true, if_false] at hwt
        have HW : Keep (offP (ts.take (k + 1)) p = offP (ts.take k) p ++ [ts[k]]) := ⟨hwt⟩
        have hq2 : (ts[k].path.toList != p.toList) = true := by simpa using hq
        have hlen : (offP (ts.take k) p).length ≤ 1048576 := Nat.le_trans offP_len (by simp; omega)
        clear hwt hc
        generalize offP (ts.take k) p = us at *
        have hb1 : Below wr.heap.size wr (wr.alloc (.cells #[.string ts[k].path, .string ts[k].text, .bool ts[k].runs] 57)).drew := ((Below.refl _ _).alloc (Nat.le_refl _) _).drew
        have o1 := hst.cell
        have o1a : ∀ o, (wr.alloc o).cell? ⟨ob, 0, none⟩ = some v := fun o => cell_later ((Below.refl _ _).alloc (Nat.le_refl _) o) o1
        have HST : Keep (OutSt ob W v us wr) := ⟨hst⟩
        have hgs := hst.grown.size
        clear hst hbr
        go_wp2_with fail
        go_region_law (refine step_append_lies _ rfl _ _ 23 rfl W.heap.size 57 i0 _ 3 40 Try.underlying23 hi hz0 hz1 hz2 rfl (by decide) v us.length (ecells us) rfl (by exact owns_below HST.out.row hb1) ⟨wr.heap.size, 0, none⟩ 1 1 (ecell ts[k]) rfl rfl (by exact news_3 _ _ _ _ (by simp)) (by exact one_3 _) (by omega) (by unfold maxLen; omega) (by omega) (by simp; omega) (wr.heap.size + 1) (by simp) ?_; intro g2 cap2 w2 hown2 hgrow2 hat2 hlt2; have hm3 := HST.out.mid hb1 hgrow2; have oc3 := hm3.1; have of3 := hm3.2)
        all_goals
          have hst3 := HST.out.append hb1 hgrow2 hown2
          clear hm3 oc3 of3 hgrow2 hown2 hat2 hlt2 o1 o1a x0 x1 x2 mr HST
          go_wp2
          go_roundw
          case rel => exact ⟨k + 1, _, by congr 1, hlt, by rw [HW.out]; exact hst3⟩
          case measure => simp only [intOf]; omega
    · obtain rfl : k = ts.length := by omega
      rw [List.take_length] at hst
      have k2 := hst.keep k0 (by have := HS.out; omega) (by have := HS.out; omega)
      have g0 := hst.keep f0 (by have := HS.out; omega) (by have := HS.out; omega)
      have g1 := hst.keep f1 (by have := HS.out; omega) (by have := HS.out; omega)
      have g2 := hst.keep f2 (by have := HS.out; omega) (by have := HS.out; omega)
      have kf2 : wr.frozen? ⟨g, 0, none⟩ = false := frozen_of (hst.grown.block g (by have := HS.out; omega) (fun e => by have := HS.out; cases e; omega)) kf
      obtain ⟨ad, cap2, rfl⟩ := owns_slice hst.row
      have o2 := hst.cell
      have of2 := hst.fz
      have hel := el_of_row hst.row
      have hgo : ¬ g = ob := by have := HS.out; omega
      have hog : ¬ ob = g := by have := HS.out; omega
      cases ht : f.there with
      | false =>
        rw [ht] at g0
        have HB : Keep (LayPost6N ts p f w (.returned (.agg #[.slice ad (offP ts p).length cap2])) (wr.setCell ⟨g, 0, none⟩ (.slice ad (offP ts p).length cap2))) := ⟨⟨ad, cap2, offP ts p, rfl, by unfold LayRel; rw [if_neg (by rw [ht]; simp)], (hel.grown (row := some g) (grown_set0 wr g 0 _) (fun j _ hj _ e => by have := HS.out; cases e; omega)).mono (show w.heap.size ≤ W.heap.size by have := HS.out; omega), hbr.setCell (p := ⟨g, 0, none⟩) (by have := HS.out; show _ ≤ g; omega) _, Nat.le_trans offP_len (by omega), nil_row hst.row⟩⟩
        clear hel hst hbr
        generalize offP ts p = us at *
        go_wp2
        refine bodyPost_ret (v := .agg #[.slice ad us.length cap2]) ?_ rfl HB.out
        go_light
        simp [results, Try.results24, go_sem, k2]
      | true =>
        rw [ht] at g0
        have hset := l5SetC_any ad cap2 (offP ts p) ⟨p, f.text, f.runs⟩ wr hel.es (Nat.le_trans offP_len (by omega)) (offP_asc hA)
        have hol : (offP ts p).length ≤ ts.length := offP_len
        have HST : Keep (OutSt ob W (.slice ad (offP ts p).length cap2) (offP ts p) wr) := ⟨hst⟩
        clear hel hst
        go_wp2_with fail
        refine hset.mono ?_
        rintro e w3 ⟨ad3, cap3, us, rfl, hrel, hel3, hb3, hus, _⟩
        replace k2 := cell_later hb3 k2
        replace o2 := cell_later hb3 o2
        replace kf2 : w3.frozen? ⟨g, 0, none⟩ = false := (hb3.frozen (p := ⟨g, 0, none⟩) (World.block_lt_of_cell? wr ⟨g, 0, none⟩ (HST.out.keep k0 (by have := HS.out; omega) (by have := HS.out; omega)))).trans kf2
        replace of2 : w3.frozen? ⟨ob, 0, none⟩ = false := (hb3.frozen (p := ⟨ob, 0, none⟩) HST.out.size).trans of2
        have hgw := HST.out.grown.size
        have h31 := hel3.grown (row := some ob) (grown_set0 w3 ob 0 (.slice ad3 us.length cap3)) (fun j _ hj _ e => by have := HS.out; cases e; omega)
        have h32 := h31.grown (row := some g) (grown_set0 _ g 0 (.slice ad3 us.length cap3)) (fun j _ hj _ e => by have := HS.out; cases e; omega)
        have hb4 := ((hbr.trans (hb3.mono hbr.size)).setCell (p := ⟨ob, 0, none⟩) (by have := HS.out; show _ ≤ ob; omega) (.slice ad3 us.length cap3)).setCell (p := ⟨g, 0, none⟩) (by have := HS.out; show _ ≤ g; omega) (.slice ad3 us.length cap3)
        have HB : Keep (LayPost6N ts p f w (.returned (.agg #[.slice ad3 us.length cap3])) ((w3.setCell ⟨ob, 0, none⟩ (.slice ad3 us.length cap3)).setCell ⟨g, 0, none⟩ (.slice ad3 us.length cap3))) := ⟨⟨ad3, cap3, us, rfl, by unfold LayRel; rw [if_pos ht]; exact hrel, h32.mono (show w.heap.size ≤ wr.heap.size by have := HS.out; omega), hb4, by omega, NilOk.ne hel3 (fun h => by have := (hrel.mem ⟨p, f.text, f.runs⟩).2 (.inl rfl); rw [h] at this; cases this)⟩⟩
        clear hel3 h31 h32 hb4 hb3 hset hbr HST
        go_wp2
        refine bodyPost_ret (v := .agg #[.slice ad3 us.length cap3]) ?_ rfl HB.out
        go_light
        simp [results, Try.results24, go_sem, k2]
end Go.Proofs.Ytjlflmbifeocbaa

namespace Go.Proofs.Ytjlflmbifeocbaa
open Go.RowKit

structure YN (T0 : Array Value) (X : World) (P C K : Value) (tb b1 o : Nat) (us : List En) (s : ByteArray) (f : Fl) (E : World → Prop) (L : Array Bool) (a : Act) (w : World) : Prop where
  sl : Sl2 T0 yDs (yTab P C K tb b1 o s f) L a
  w0 : L.getD 13 false = false → w = X.drew
  w1 : L.getD 13 false = true → L.getD 14 false = false → ∃ ad cap vs, a.eval (.tmp 63) = .agg #[.slice ad vs.length cap] ∧ LayRel us s f vs ∧ EL X.heap.size w ad vs ∧ Below X.heap.size X w ∧ (vs.length ≤ us.length + 1 ∧ NilOk ad cap)
  w3 : L.getD 14 false = true → E w

theorem YN.step {T0 : Array Value} {X : World} {P C K : Value} {tb b1 o : Nat} {us : List En} {s : ByteArray} {f : Fl} {E : World → Prop} {L : Array Bool} {a : Act} {w : World} (h : YN T0 X P C K tb b1 o us s f E L a w) {i : Nat} {u : Value} (hT : T0.size = 69) (hi : i < 13) (ht : yTab P C K tb b1 o s f i = some u) :
    YN T0 X P C K tb b1 o us s f E (L.setIfInBounds i true) (a.put (some (50 + i)) u) w := by
  have hlen : i < yDs.length := by show i < 15; omega
  have hds : yDs[i] = 50 + i := by
    match i, hi with
    | 0, _ | 1, _ | 2, _ | 3, _ | 4, _ | 5, _ | 6, _ | 7, _ | 8, _ | 9, _ | 10, _ | 11, _ | 12, _ => rfl
  have hsl := h.sl.put yNd hlen (by rw [hds, hT]; omega) (v := u) (fun u' hu => by rw [ht] at hu; cases hu; rfl)
  rw [hds] at hsl
  have ev : ∀ k, k ≠ 50 + i → (a.put (some (50 + i)) u).eval (.tmp k) = a.eval (.tmp k) := fun k hk => Act.eval_put (fun d hd' => by cases hd'; intro e'; injection e' with e'; exact hk e')
  refine ⟨hsl, fun h1 => ?_, fun h1 h2 => ?_, fun h1 => ?_⟩
  · rw [getD_set_ne false (by omega)] at h1; exact h.w0 h1
  · rw [getD_set_ne false (by omega)] at h1; rw [getD_set_ne false (by omega)] at h2
    obtain ⟨ad, cap, vs, e1, e2⟩ := h.w1 h1 h2
    exact ⟨ad, cap, vs, by rw [ev 63 (by omega)]; exact e1, e2⟩
  · rw [getD_set_ne false (by omega)] at h1; exact h.w3 h1
theorem YN.call {T0 : Array Value} {X : World} {P C K : Value} {tb b1 o : Nat} {us : List En} {s : ByteArray} {f : Fl} {E : World → Prop} {L : Array Bool} {a : Act} {w w' : World} (h : YN T0 X P C K tb b1 o us s f E L a w) (hT : T0.size = 69) (hL : L.getD 13 true = false) (h14 : L.getD 14 false = false) {ad : Option Addr} {cap : Nat} {vs : List En}
    (e2 : LayRel us s f vs) (e3 : EL X.heap.size w' ad vs) (e4 : Below X.heap.size X w') (e5 : (vs.length ≤ us.length + 1 ∧ NilOk ad cap)) :
    YN T0 X P C K tb b1 o us s f E (L.setIfInBounds 13 true) (a.put (some 63) (.agg #[.slice ad vs.length cap])) w' := by
  have g13 : (L.setIfInBounds 13 true).getD 13 false = true := by
    have h1 := getD_false hL
    have h2 : 13 < L.size := by simpa using (List.getElem?_eq_some_iff.1 h1).1
    rw [Array.getD_eq_getD_getElem?, Array.getElem?_setIfInBounds_self_of_lt h2]
    rfl
  refine ⟨h.sl.put (i := 13) yNd (by decide) (show 63 < _ by rw [hT]; omega) (fun u hu => by cases hu), fun h1 => ?_, fun _ _ => ⟨ad, cap, vs, ?_, e2, e3, e4, e5⟩, fun h1 => ?_⟩
  · rw [g13] at h1; cases h1
  · show ((a.tmps.setIfInBounds 63 _).getD 63 undef) = _
    rw [Array.getD_eq_getD_getElem?, Array.getElem?_setIfInBounds_self_of_lt (by rw [h.sl.sz, hT]; omega)]
    rfl
  · rw [getD_set_ne false (by omega), h14] at h1; cases h1
theorem YN.last {T0 : Array Value} {X : World} {P C K : Value} {tb b1 o : Nat} {us : List En} {s : ByteArray} {f : Fl} {E : World → Prop} {L : Array Bool} {a : Act} {w w' : World} (h : YN T0 X P C K tb b1 o us s f E L a w) (h13 : L.getD 13 false = true) (hL : L.getD 14 true = false) (hE : E w') :
    YN T0 X P C K tb b1 o us s f E (L.setIfInBounds 14 true) a w' := by
  have g14 : (L.setIfInBounds 14 true).getD 14 false = true := by
    have h1 := getD_false hL
    have h2 : 14 < L.size := by simpa using (List.getElem?_eq_some_iff.1 h1).1
    rw [Array.getD_eq_getD_getElem?, Array.getElem?_setIfInBounds_self_of_lt h2]
    rfl
  refine ⟨h.sl.skip rfl, fun h1 => ?_, fun _ h2 => ?_, fun _ => hE⟩
  · rw [getD_set_ne false (by omega), h13] at h1; cases h1
  · rw [g14] at h2; cases h2
end Go.Proofs.Ytjlflmbifeocbaa

namespace Go.Proofs.Ytjlflmbifeocbaa
open Go.RowKit

def ApplyPostN (ts : List En) (cs : List Ch) (w : World) (e : Ending) (w' : World) : Prop :=
  ∃ us c, ApplyRel ts cs us c ∧ (∃ ad cap, e = .returned (TreeV ad us.length cap c) ∧ EL w.heap.size w' ad us ∧ NilOk ad cap) ∧ Below w.heap.size w w'
set_option maxRecDepth 100000 in
set_option maxHeartbeats 8000000 in
theorem specApplyN_any (a b : Option Addr) (ca cb : Nat) (ts : List En) (cs : List Ch) (w : World) (hts : ES w a ts) (hcs : CS w b cs) (hn : ts.length ≤ 1048576) (hnb : cs.length ≤ 1048576) (hca : (∃ ad, a = some ad) ∨ (a = none ∧ ca = 0)) :
    Calls Try.prog 44 #[.agg #[.slice a ts.length ca], .agg #[.slice b cs.length cb]] w fun e w' => ApplyPostN ts cs w e w' := by
  have hal : Below w.heap.size w (((w.alloc (.cells #[.slice a ts.length ca] 25)).alloc (.cells #[.slice b cs.length cb] 30)).alloc (.cells #[.slice none 0 0] 25)) := (((Below.refl _ _).alloc (Nat.le_refl _) _).alloc (by simp) _).alloc (by simp; omega) _
  have m0 : (((w.alloc (.cells #[.slice a ts.length ca] 25)).alloc (.cells #[.slice b cs.length cb] 30)).alloc (.cells #[.slice none 0 0] 25)).cell? ⟨w.heap.size, 0, none⟩ = some (.slice a ts.length ca) := by simp [go_sem]
  have m1 : (((w.alloc (.cells #[.slice a ts.length ca] 25)).alloc (.cells #[.slice b cs.length cb] 30)).alloc (.cells #[.slice none 0 0] 25)).cell? ⟨w.heap.size + 1, 0, none⟩ = some (.slice b cs.length cb) := by simp [go_sem]
  have k0 : (((w.alloc (.cells #[.slice a ts.length ca] 25)).alloc (.cells #[.slice b cs.length cb] 30)).alloc (.cells #[.slice none 0 0] 25)).cell? ⟨w.heap.size + 1 + 1, 0, none⟩ = some (.slice none 0 0) := by simp [go_sem]
  have kf : (((w.alloc (.cells #[.slice a ts.length ca] 25)).alloc (.cells #[.slice b cs.length cb] 30)).alloc (.cells #[.slice none 0 0] 25)).frozen? ⟨w.heap.size + 1 + 1, 0, none⟩ = false := by simp [go_sem]
  have os0 : w.heap.size + 1 + 1 < (((w.alloc (.cells #[.slice a ts.length ca] 25)).alloc (.cells #[.slice b cs.length cb] 30)).alloc (.cells #[.slice none 0 0] 25)).heap.size := by simp [go_sem]
  go_enter Try.func44, Try.ntmps44
  go_upto_region 1 with fail
  generalize ((w.alloc (.cells #[.slice a ts.length ca] 25)).alloc (.cells #[.slice b cs.length cb] 30)).alloc (.cells #[.slice none 0 0] 25) = W at *
  obtain ⟨g, hg⟩ : ∃ g, g = w.heap.size + 1 + 1 := ⟨_, rfl⟩
  obtain ⟨tb, htb⟩ : ∃ tb, tb = w.heap.size + 1 := ⟨_, rfl⟩
  obtain ⟨ta, hta⟩ : ∃ ta, ta = w.heap.size := ⟨_, rfl⟩
  rw [← hg] at k0 kf os0 ⊢
  rw [← htb] at m1 ⊢
  rw [← hta] at m0 ⊢
  have HS : Keep (ta = w.heap.size ∧ tb = w.heap.size + 1 ∧ g = w.heap.size + 2) := ⟨by omega⟩
  clear hg htb hta
  go_cut [16] (fun v wx => ∃ nb : Bool, v = .bool nb ∧ Keep (nb = false ↔ ValidTs ts ∧ ValidP cs) ∧ Below W.heap.size W wx)
  case first =>
    go_wp2_with fail
    refine (specTree_any a ca ts W (hts.below hal) hn).mono ?_
    rintro e w1 ⟨va, rfl, hva, hb1⟩
    have m1' := cell_later hb1 m1
    cases va with
    | false =>
      have HV : Keep ((true = false) ↔ ValidTs ts ∧ ValidP cs) := ⟨⟨fun h => (by cases h), fun h => (by have := hva.2 h.1; cases this)⟩⟩
      clear hva
      go_wp2_with fail
      go_meet
      case rel => exact ⟨true, rfl, HV, hb1⟩
    | true =>
      have HV : Keep (ValidTs ts) := ⟨hva.1 rfl⟩
      clear hva
      go_wp2_with fail
      refine (specPatch_any b cb cs w1 ((hcs.below hal).below hb1) hnb).mono ?_
      rintro e w2 ⟨vb, rfl, hvb, hb2⟩
      have HV2 : Keep ((!vb) = false ↔ ValidTs ts ∧ ValidP cs) := ⟨⟨fun h => ⟨HV.out, hvb.1 (by simpa using h)⟩, fun h => by rw [hvb.2 h.2]; rfl⟩⟩
      clear hvb
      go_wp2_with fail
      go_meet
      case rel => exact ⟨_, rfl, HV2, hb1.trans (hb2.mono hb1.size)⟩
  case rest =>
    obtain ⟨nb, rfl, HV, hb1⟩ := hcut
    replace m0 := cell_later hb1 m0
    replace m1 := cell_later hb1 m1
    replace k0 := cell_later hb1 k0
    replace kf : wc.frozen? ⟨g, 0, none⟩ = false := (hb1.frozen (p := ⟨g, 0, none⟩) os0).trans kf
    have os1 : g < wc.heap.size := Nat.lt_of_lt_of_le os0 hb1.size
    have hbw := hal.trans (hb1.mono hal.size)
    clear hb1 hal os0
    cases nb with
    | true =>
      have hnv : ¬ (ValidTs ts ∧ ValidP cs) := fun h => by have := HV.out.2 h; cases this
      go_wp2
      refine bodyPost_ret (v := TreeV none ([] : List En).length 0 1) ?_ rfl ⟨[], 1, .inl ⟨hnv, rfl, rfl⟩, ⟨none, 0, rfl, EL.nil _ _ _, .inr ⟨rfl, rfl⟩⟩, hbw.setCell (p := ⟨g, 0, none⟩) (by have := HS.out; show _ ≤ g; omega) _⟩
      go_light
      simp [results, Try.results44, go_sem, TreeV, k0]
    | false =>
      have hv := HV.out.1 rfl
      have HS1 : Keep (g < wc.heap.size) := ⟨os1⟩
      clear os1
      go_wp2
      go_loopw [6] (fun i wr => ∃ k : Nat, i = .int .i64 k ∧ k ≤ cs.length ∧ Below wc.heap.size wc wr ∧ Keep (∀ x ∈ cs.take k, sameF (atL ts x.path) x.old = true)) (fun i _ => cs.length - (intOf i).toNat)
      case atStart => exact ⟨0, rfl, Nat.zero_le _, Below.refl _ _, ⟨fun x hx => by simp at hx⟩⟩
      case round =>
        obtain ⟨k, rfl, hk, hbk, HSM⟩ := hrel
        have t0 := cell_later hbk m0
        have t1 := cell_later hbk m1
        have hbx := hbw.trans (hbk.mono hbw.size)
        by_cases hlt : k < cs.length
        · have hlt' : (k : Int) < cs.length := by omega
          obtain ⟨b1, o1, rfl, hc1⟩ := (hcs.below hbx).at hlt
          obtain ⟨x0, x1, x2, x3, x4, x5, x6⟩ := hc1 k hlt
          have ct0 : ∀ z : Later wr, z.world.cell? ⟨ta, 0, none⟩ = some (.slice a ts.length ca) := fun z => cell_later z.kept t0
          have ct1 : ∀ z : Later wr, z.world.cell? ⟨tb, 0, none⟩ = some (.slice (some ⟨b1, o1, none⟩) cs.length cb) := fun z => cell_later z.kept t1
          have cx0 : ∀ z : Later wr, z.world.cell? ⟨b1, o1 + k * 7, none⟩ = some (.string cs[k].path) := fun z => cell_later z.kept x0
          have cx1 : ∀ z : Later wr, z.world.cell? ⟨b1, o1 + k * 7 + 1, none⟩ = some (.bool cs[k].old.there) := fun z => cell_later z.kept x1
          have cx2 : ∀ z : Later wr, z.world.cell? ⟨b1, o1 + k * 7 + 2, none⟩ = some (.string cs[k].old.text) := fun z => cell_later z.kept x2
          have cx3 : ∀ z : Later wr, z.world.cell? ⟨b1, o1 + k * 7 + 3, none⟩ = some (.bool cs[k].old.runs) := fun z => cell_later z.kept x3
          have kr := cell_later hbk k0
          have kfr : wr.frozen? ⟨g, 0, none⟩ = false := (hbk.frozen (p := ⟨g, 0, none⟩) HS1.out).trans kf
          have HG : Keep (g < wr.heap.size) := ⟨Nat.lt_of_lt_of_le HS1.out hbk.size⟩
          obtain ⟨f1, hf1⟩ : ∃ f1, f1 = atL ts cs[k].path := ⟨_, rfl⟩
          have HA1 : Keep (∀ z : Later wr, Calls Try.prog 35 #[.agg #[.slice a ts.length ca], .string cs[k].path] z.world fun e w'' => e = .returned (.agg #[.bool f1.there, .string f1.text, .bool f1.runs]) ∧ ∃ q : Later wr, w'' = q.world) := ⟨fun z => by rw [hf1]; exact Later.call z (l6At_any a ca ts cs[k].path z.world ((hts.below hbx).below z.kept) hn)⟩
          have HT : Keep (cs.take (k + 1) = cs.take k ++ [cs[k]]) := ⟨List.take_succ_eq_append_getElem hlt⟩
          clear hc1 x0 x1 x2 x3 x4 x5 x6
          cases hsm : sameF f1 cs[k].old with
          | true =>
            have HN2 : Keep (∀ x ∈ cs.take (k + 1), sameF (atL ts x.path) x.old = true) := ⟨fun x hx => by
              rw [HT.out] at hx
              rcases List.mem_append.1 hx with h' | h'
              · exact HSM.out x h'
              · rw [List.mem_singleton.1 h', ← hf1]; exact hsm⟩
            obtain ⟨⟨h1, h2⟩, h3⟩ : (f1.there = cs[k].old.there ∧ f1.text.toList = cs[k].old.text.toList) ∧ f1.runs = cs[k].old.runs := by simpa [sameF] using hsm
            have h4 : f1.text = cs[k].old.text := WideShapes.bytes_inj (by rw [← Lib.toList_data, ← Lib.toList_data]; exact h2)
            rw [← h1] at cx1
            rw [← h4] at cx2
            rw [← h3] at cx3
            clear hsm h1 h2 h3 h4 hf1
            go_upto_region 6 with fail
            (haveI := later_any; refine wp_region_later (by kernel_rfl) (by kernel_rfl) ?_; (repeat (go_big_quiet_step (first | (go_at_call 35; exact HA1.out _)))); refine wpQuiet_nil ?_; intro _ hwq; obtain ⟨xq, hwq2⟩ := hwq; subst hwq2)
            have hbq := hbk.trans (xq.kept.mono hbk.size)
            clear ct0 ct1 cx0 cx1 cx2 cx3 HA1 t0 t1 hbk hbx kr kfr
            go_wp2
            go_roundw
            case rel => exact ⟨k + 1, by congr 1, hlt, hbq, HN2⟩
            case measure => simp only [intOf]; omega
          | false =>
            have HBad : Keep (∀ X, Below wr.heap.size wr X → ApplyPostN ts cs w (.returned (TreeV none ([] : List En).length 0 2)) (X.setCell ⟨g, 0, none⟩ (.slice none 0 0))) := ⟨fun X hX => ⟨[], 2, .inr ⟨hv.1, hv.2, .inl ⟨⟨cs[k], List.getElem_mem hlt, by rw [← hf1]; exact hsm⟩, rfl, rfl⟩⟩, ⟨none, 0, rfl, EL.nil _ _ _, .inr ⟨rfl, rfl⟩⟩, (hbx.trans (hX.mono hbx.size)).setCell (p := ⟨g, 0, none⟩) (by have := HS.out; show _ ≤ g; omega) _⟩⟩
            clear hf1
            by_cases h1 : f1.there = cs[k].old.there
            · by_cases h2 : f1.text.toList = cs[k].old.text.toList
              · by_cases h3 : f1.runs = cs[k].old.runs
                · exfalso
                  rw [Bool.eq_false_iff] at hsm
                  exact hsm (by simp [sameF, h1, h2, h3])
                · clear hsm
                  go_upto_region 6 with fail
                  (haveI := later_any; refine wp_region_later (by kernel_rfl) (by kernel_rfl) ?_; (repeat (go_big_quiet_step (first | (go_at_call 35; exact HA1.out _)))); refine wpQuiet_nil ?_; intro _ hwq; obtain ⟨xq, hwq2⟩ := hwq; subst hwq2)
                  have kq := cell_later xq.kept kr
                  have kfq : xq.world.frozen? ⟨g, 0, none⟩ = false := (xq.kept.frozen (p := ⟨g, 0, none⟩) HG.out).trans kfr
                  have HB : Keep (ApplyPostN ts cs w (.returned (TreeV none ([] : List En).length 0 2)) (xq.world.setCell ⟨g, 0, none⟩ (.slice none 0 0))) := ⟨HBad.out xq.world xq.kept⟩
                  go_wp2
                  refine bodyPost_ret (v := TreeV none ([] : List En).length 0 2) ?_ rfl HB.out
                  go_light
                  simp [results, Try.results44, go_sem, TreeV, kq]
              · clear hsm
                go_upto_region 6 with fail
                (haveI := later_any; refine wp_region_later (by kernel_rfl) (by kernel_rfl) ?_; (repeat (go_big_quiet_step (first | (go_at_call 35; exact HA1.out _)))); refine wpQuiet_nil ?_; intro _ hwq; obtain ⟨xq, hwq2⟩ := hwq; subst hwq2)
                have kq := cell_later xq.kept kr
                have kfq : xq.world.frozen? ⟨g, 0, none⟩ = false := (xq.kept.frozen (p := ⟨g, 0, none⟩) HG.out).trans kfr
                have HB : Keep (ApplyPostN ts cs w (.returned (TreeV none ([] : List En).length 0 2)) (xq.world.setCell ⟨g, 0, none⟩ (.slice none 0 0))) := ⟨HBad.out xq.world xq.kept⟩
                go_wp2
                refine bodyPost_ret (v := TreeV none ([] : List En).length 0 2) ?_ rfl HB.out
                go_light
                simp [results, Try.results44, go_sem, TreeV, kq]
            · clear hsm
              go_upto_region 6 with fail
              (haveI := later_any; refine wp_region_later (by kernel_rfl) (by kernel_rfl) ?_; (repeat (go_big_quiet_step (first | (go_at_call 35; exact HA1.out _)))); refine wpQuiet_nil ?_; intro _ hwq; obtain ⟨xq, hwq2⟩ := hwq; subst hwq2)
              have kq := cell_later xq.kept kr
              have kfq : xq.world.frozen? ⟨g, 0, none⟩ = false := (xq.kept.frozen (p := ⟨g, 0, none⟩) HG.out).trans kfr
              have HB : Keep (ApplyPostN ts cs w (.returned (TreeV none ([] : List En).length 0 2)) (xq.world.setCell ⟨g, 0, none⟩ (.slice none 0 0))) := ⟨HBad.out xq.world xq.kept⟩
              go_wp2
              refine bodyPost_ret (v := TreeV none ([] : List En).length 0 2) ?_ rfl HB.out
              go_light
              simp [results, Try.results44, go_sem, TreeV, kq]
        · obtain rfl : k = cs.length := by omega
          rw [List.take_length] at HSM
          have kr := cell_later hbk k0
          have kfr : wr.frozen? ⟨g, 0, none⟩ = false := (hbk.frozen (p := ⟨g, 0, none⟩) HS1.out).trans kf
          have HG : Keep (g < wr.heap.size) := ⟨Nat.lt_of_lt_of_le HS1.out hbk.size⟩
          have hcp := l5CopyR_any a ca ts wr (hts.below hbx) hn hca
          go_wp2_with fail
          refine hcp.mono ?_
          rintro e w2 ⟨ad2, cap2, rfl, hrow2, hsome2, hb2⟩
          have hel2 := el_of_row hrow2
          have HN2 : Keep (NilOk ad2 cap2) := ⟨.inl hsome2⟩
          clear hrow2 hsome2
          have hb3 : Below w2.heap.size w2 (w2.alloc (.cells #[.slice ad2 ts.length cap2] 25)) := (Below.refl _ _).alloc (Nat.le_refl _) _
          have o0 : (w2.alloc (.cells #[.slice ad2 ts.length cap2] 25)).cell? ⟨w2.heap.size, 0, none⟩ = some (.slice ad2 ts.length cap2) := by simp
          have of0 : (w2.alloc (.cells #[.slice ad2 ts.length cap2] 25)).frozen? ⟨w2.heap.size, 0, none⟩ = false := by simp
          have os0 : w2.heap.size < (w2.alloc (.cells #[.slice ad2 ts.length cap2] 25)).heap.size := by simp
          have hap := hel2.apart (ob := w2.heap.size) (.inr (Nat.le_refl _))
          obtain ⟨B0, hB0⟩ : ∃ B0, B0 = wr.heap.size := ⟨_, rfl⟩
          have hel3 : EL B0 (w2.alloc (.cells #[.slice ad2 ts.length cap2] 25)) ad2 ts := by rw [hB0]; exact hel2.below hb3
          have HB0 : Keep (g < B0 ∧ w.heap.size ≤ B0 ∧ B0 ≤ w2.heap.size) := ⟨by have := HG.out; have := hbx.size; have := hb2.size; omega⟩
          clear hB0
          have hbx2 := hbx.trans (hb2.mono hbx.size)
          have m1q := cell_later hb2 t1
          have k0q := cell_later hb2 kr
          have kfq : w2.frozen? ⟨g, 0, none⟩ = false := (hb2.frozen (p := ⟨g, 0, none⟩) HG.out).trans kfr
          have HG2 : Keep (g < w2.heap.size ∧ w.heap.size ≤ g) := ⟨⟨Nat.lt_of_lt_of_le HG.out hb2.size, by have := HS.out; omega⟩⟩
          have hA0 : AppRel ts (cs.take 0) ts := AppRel.start (valid_asc hv.1)
          have ht100 := hv.1.1
          have hc200 := hv.2.1
          have hCK := ap_asc hv.2
          clear hel2 hb2 hcp kr kfr HG t0 t1 hbk hbx
          go_wp2
          generalize w2.alloc (.cells #[.slice ad2 ts.length cap2] 25) = W2 at *
          obtain ⟨ob, hob⟩ : ∃ ob, ob = w2.heap.size := ⟨_, rfl⟩
          rw [← hob] at o0 of0 os0 hap ⊢
          have HOB : Keep (ob = w2.heap.size ∧ ob < W2.heap.size) := ⟨⟨hob, os0⟩⟩
          clear hob os0
          go_loopw [8] (fun i wq => ∃ (k : Nat) (ad : Option Addr) (cp : Nat) (us : List En), i = .int .i64 k ∧ k ≤ cs.length ∧ wq.cell? ⟨ob, 0, none⟩ = some (.slice ad us.length cp) ∧ wq.frozen? ⟨ob, 0, none⟩ = false ∧ EL B0 wq ad us ∧ (us = [] ∨ blk ad ≠ some ob) ∧ Below w2.heap.size w2 wq ∧ AppRel ts (cs.take k) us ∧ us.length ≤ ts.length + k ∧ ob < wq.heap.size ∧ Keep (NilOk ad cp)) (fun i _ => cs.length - (intOf i).toNat)
          case atStart => exact ⟨0, ad2, cap2, ts, rfl, Nat.zero_le _, o0, of0, hel3, hap, hb3, hA0, Nat.le_refl _, HOB.out.2, HN2⟩
          case round =>
            clear o0 of0 hap hel3 hb3 hA0
            obtain ⟨k, ad, cp, us, rfl, hk, o0, of0, hel, hap, hbq, hAR, hul, hobq, HNN⟩ := hrel
            have t1 := cell_later hbq m1q
            have hbx3 := hbx2.trans (hbq.mono hbx2.size)
            by_cases hlt : k < cs.length
            · have hlt' : (k : Int) < cs.length := by omega
              obtain ⟨b1, o1, rfl, hc1⟩ := (hcs.below hbx3).at hlt
              obtain ⟨x0, _, _, _, x4, x5, x6⟩ := hc1 k hlt
              have hly := l6LayN_any ad cp us cs[k].path cs[k].new wr.drew (hel.es.below ((Below.refl _ _).drew)) (by omega) hAR.asc
              have HE : Keep (∀ (ad3 : Option Addr) (cp3 : Nat) (vs : List En) (X : World), LayRel us cs[k].path cs[k].new vs → EL wr.heap.size X ad3 vs → Below wr.heap.size wr X → (vs.length ≤ us.length + 1 ∧ NilOk ad3 cp3) → (X.setCell ⟨ob, 0, none⟩ (.slice ad3 vs.length cp3)).cell? ⟨ob, 0, none⟩ = some (.slice ad3 vs.length cp3) ∧ (X.setCell ⟨ob, 0, none⟩ (.slice ad3 vs.length cp3)).frozen? ⟨ob, 0, none⟩ = false ∧ EL B0 (X.setCell ⟨ob, 0, none⟩ (.slice ad3 vs.length cp3)) ad3 vs ∧ (vs = [] ∨ blk ad3 ≠ some ob) ∧ Below w2.heap.size w2 (X.setCell ⟨ob, 0, none⟩ (.slice ad3 vs.length cp3)) ∧ AppRel ts (cs.take (k + 1)) vs ∧ vs.length ≤ ts.length + (k + 1) ∧ ob < (X.setCell ⟨ob, 0, none⟩ (.slice ad3 vs.length cp3)).heap.size ∧ Keep (NilOk ad3 cp3)) := ⟨fun ad3 cp3 vs X h1 h2 h3 h4 => by
                have h41 := h4.1
                have hap3 := h2.apart (ob := ob) (.inl hobq)
                refine ⟨World.cell?_setCell_same _ _ _ (cell_later h3 o0), (World.frozen?_setCell _ _ _ _).trans ((h3.frozen (p := ⟨ob, 0, none⟩) hobq).trans of0), (h2.box hap3).mono (Nat.le_trans HB0.out.2.2 hbq.size), hap3, (hbq.trans (h3.mono hbq.size)).setCell (p := ⟨ob, 0, none⟩) (by have := HOB.out; show _ ≤ ob; omega) _, hAR.step hlt hCK h1, by omega, by have := h3.size; simp; omega, ⟨h4.2⟩⟩⟩
              go_upto_region 12 with fail
              refine (wpIn_wide (n := 0)).1 ?_
              refine wpIn_region_inv0 (by kernel_rfl) (by kernel_rfl) (fun T0 => YN T0 wr (.agg #[.slice ad us.length cp]) (.slice (some ⟨b1, o1, none⟩) cs.length cb) (.int .i64 k) tb b1 (o1 + k * 7) us cs[k].path cs[k].new (fun X => ∃ (ad3 : Option Addr) (cp3 : Nat) (vs : List En), X.cell? ⟨ob, 0, none⟩ = some (.slice ad3 vs.length cp3) ∧ X.frozen? ⟨ob, 0, none⟩ = false ∧ EL B0 X ad3 vs ∧ (vs = [] ∨ blk ad3 ≠ some ob) ∧ Below w2.heap.size w2 X ∧ AppRel ts (cs.take (k + 1)) vs ∧ vs.length ≤ ts.length + (k + 1) ∧ ob < X.heap.size ∧ Keep (NilOk ad3 cp3))) ?_ ?_ ?_
              · exact ⟨Sl2.start _, fun _ => rfl, (fun h => by rw [getD_repl] at h; cases h), (fun h => by rw [getD_repl] at h; cases h)⟩
              · intro L a2 w9 hinv hall
                obtain ⟨ad3, cp3, vs, y1, y2, y3, y4, y5, y6, y7, y8, y9⟩ := hinv.w3 (hall 14 (by decide))
                have HX : Keep _ := ⟨hinv.sl.act⟩
                clear hinv hall HE hly x0 x4 x5 x6 t1 o0 of0
                rw [HX.out]
                simp only [updL, yDs, List.contains_cons, List.contains_nil, Nat.reduceAdd, Nat.reduceBEq, Bool.or_false, cond_false, cond_true, Bool.or_true]
                go_wp2
                go_roundw
                case rel => exact ⟨k + 1, ad3, cp3, vs, by congr 1, hlt, y1, y2, y3, y4, y5, y6, y7, y8, y9⟩
                case measure => simp only [intOf]; omega
              · intro L a2 w9 i o hinv hcl hL ho hdep
                have hi15 : i < 15 := (Array.getElem?_eq_some_iff.1 ho).1
                unfold wpOpIn
                rw [ho]
                have q13 : i < 13 → L.getD 13 false = false := fun hi => by
                  cases hb : L.getD 13 false with
                  | false => rfl
                  | true =>
                    exfalso
                    have d0 := hcl 13 _ rfl hb ⟨0, .data⟩ (by simp) rfl
                    have d6 := hcl 13 _ rfl hb ⟨6, .data⟩ (by simp) rfl
                    have d12 := hcl 13 _ rfl hb ⟨12, .data⟩ (by simp) rfl
                    have d5 := hcl 6 _ rfl d6 ⟨5, .data⟩ (by simp) rfl
                    have d4 := hcl 5 _ rfl d5 ⟨4, .data⟩ (by simp) rfl
                    have d3 := hcl 4 _ rfl d4 ⟨3, .data⟩ (by simp) rfl
                    have d2 := hcl 4 _ rfl d4 ⟨2, .data⟩ (by simp) rfl
                    have d1 := hcl 2 _ rfl d2 ⟨1, .data⟩ (by simp) rfl
                    have d11 := hcl 12 _ rfl d12 ⟨11, .data⟩ (by simp) rfl
                    have d10 := hcl 11 _ rfl d11 ⟨10, .data⟩ (by simp) rfl
                    have d9 := hcl 10 _ rfl d10 ⟨9, .data⟩ (by simp) rfl
                    have d8 := hcl 10 _ rfl d10 ⟨8, .data⟩ (by simp) rfl
                    have d7 := hcl 8 _ rfl d8 ⟨7, .data⟩ (by simp) rfl
                    have hf := getD_ft hL
                    match i, hi, hf with
                    | 0, _, hf => rw [d0] at hf; cases hf
                    | 1, _, hf => rw [d1] at hf; cases hf
                    | 2, _, hf => rw [d2] at hf; cases hf
                    | 3, _, hf => rw [d3] at hf; cases hf
                    | 4, _, hf => rw [d4] at hf; cases hf
                    | 5, _, hf => rw [d5] at hf; cases hf
                    | 6, _, hf => rw [d6] at hf; cases hf
                    | 7, _, hf => rw [d7] at hf; cases hf
                    | 8, _, hf => rw [d8] at hf; cases hf
                    | 9, _, hf => rw [d9] at hf; cases hf
                    | 10, _, hf => rw [d10] at hf; cases hf
                    | 11, _, hf => rw [d11] at hf; cases hf
                    | 12, _, hf => rw [d12] at hf; cases hf
                have q14 : L.getD 13 true = false → L.getD 14 false = false := fun h9 => by
                  cases hb : L.getD 14 false with
                  | false => rfl
                  | true => exfalso; have h := hcl 14 _ rfl hb ⟨13, .data⟩ (by simp) rfl; rw [getD_ft h9] at h; cases h
                clear hcl
                match i, hi15, hL, ho, hdep, q13 with
                | 0, _, hL, ho, hdep, q13 =>
                  injection ho with ho; subst ho
                  dsimp only
                  rw [if_pos (by rfl)]
                  refine ⟨fun f _ => trivial, ?_⟩
                  obtain rfl := hinv.w0 (q13 (by omega))
                  have e7 : a2.tmps[7]?.getD undef = .pointer (some ⟨ob, 0, none⟩) := hinv.sl.old (by decide)
                  go_simp
                  exact hinv.step (i := 0) rfl (by omega) rfl
                | 1, _, hL, ho, hdep, q13 =>
                  injection ho with ho; subst ho
                  dsimp only
                  rw [if_pos (by rfl)]
                  refine ⟨fun f _ => trivial, ?_⟩
                  obtain rfl := hinv.w0 (q13 (by omega))
                  have e3 : a2.tmps[3]?.getD undef = .pointer (some ⟨tb, 0, none⟩) := hinv.sl.old (by decide)
                  go_simp
                  exact hinv.step (i := 1) rfl (by omega) rfl
                | 2, _, hL, ho, hdep, q13 =>
                  injection ho with ho; subst ho
                  dsimp only
                  rw [if_pos (by rfl)]
                  refine ⟨fun f _ => trivial, ?_⟩
                  obtain rfl := hinv.w0 (q13 (by omega))
                  have e51 : a2.tmps[51]?.getD undef = .pointer (some ⟨tb, 0, none⟩) := hinv.sl.new (i := 1) (by decide) rfl (hdep ⟨1, .data⟩ (by simp) rfl)
                  go_simp
                  exact hinv.step (i := 2) rfl (by omega) rfl
                | 3, _, hL, ho, hdep, q13 =>
                  injection ho with ho; subst ho
                  dsimp only
                  rw [if_pos (by rfl)]
                  refine ⟨fun f _ => trivial, ?_⟩
                  obtain rfl := hinv.w0 (q13 (by omega))
                  have e8 : a2.tmps[8]?.getD undef = .int .i64 k := hinv.sl.old (by decide)
                  go_simp
                  exact hinv.step (i := 3) rfl (by omega) rfl
                | 4, _, hL, ho, hdep, q13 =>
                  injection ho with ho; subst ho
                  dsimp only
                  rw [if_pos (by rfl)]
                  refine ⟨fun f _ => trivial, ?_⟩
                  obtain rfl := hinv.w0 (q13 (by omega))
                  have e52 : a2.tmps[52]?.getD undef = .slice (some ⟨b1, o1, none⟩) cs.length cb := hinv.sl.new (i := 2) (by decide) rfl (hdep ⟨2, .data⟩ (by simp) rfl)
                  have e53 : a2.tmps[53]?.getD undef = .int .i64 k := hinv.sl.new (i := 3) (by decide) rfl (hdep ⟨3, .data⟩ (by simp) rfl)
                  go_simp
                  exact hinv.step (i := 4) rfl (by omega) rfl
                | 5, _, hL, ho, hdep, q13 =>
                  injection ho with ho; subst ho
                  dsimp only
                  rw [if_pos (by rfl)]
                  refine ⟨fun f _ => trivial, ?_⟩
                  obtain rfl := hinv.w0 (q13 (by omega))
                  have e54 : a2.tmps[54]?.getD undef = .pointer (some ⟨b1, o1 + k * 7, none⟩) := hinv.sl.new (i := 4) (by decide) rfl (hdep ⟨4, .data⟩ (by simp) rfl)
                  go_simp
                  exact hinv.step (i := 5) rfl (by omega) rfl
                | 6, _, hL, ho, hdep, q13 =>
                  injection ho with ho; subst ho
                  dsimp only
                  rw [if_pos (by rfl)]
                  refine ⟨fun f _ => trivial, ?_⟩
                  obtain rfl := hinv.w0 (q13 (by omega))
                  have e55 : a2.tmps[55]?.getD undef = .pointer (some ⟨b1, o1 + k * 7, none⟩) := hinv.sl.new (i := 5) (by decide) rfl (hdep ⟨5, .data⟩ (by simp) rfl)
                  go_simp
                  exact hinv.step (i := 6) rfl (by omega) rfl
                | 7, _, hL, ho, hdep, q13 =>
                  injection ho with ho; subst ho
                  dsimp only
                  rw [if_pos (by rfl)]
                  refine ⟨fun f _ => trivial, ?_⟩
                  obtain rfl := hinv.w0 (q13 (by omega))
                  have e3 : a2.tmps[3]?.getD undef = .pointer (some ⟨tb, 0, none⟩) := hinv.sl.old (by decide)
                  go_simp
                  exact hinv.step (i := 7) rfl (by omega) rfl
                | 8, _, hL, ho, hdep, q13 =>
                  injection ho with ho; subst ho
                  dsimp only
                  rw [if_pos (by rfl)]
                  refine ⟨fun f _ => trivial, ?_⟩
                  obtain rfl := hinv.w0 (q13 (by omega))
                  have e57 : a2.tmps[57]?.getD undef = .pointer (some ⟨tb, 0, none⟩) := hinv.sl.new (i := 7) (by decide) rfl (hdep ⟨7, .data⟩ (by simp) rfl)
                  go_simp
                  exact hinv.step (i := 8) rfl (by omega) rfl
                | 9, _, hL, ho, hdep, q13 =>
                  injection ho with ho; subst ho
                  dsimp only
                  rw [if_pos (by rfl)]
                  refine ⟨fun f _ => trivial, ?_⟩
                  obtain rfl := hinv.w0 (q13 (by omega))
                  have e8 : a2.tmps[8]?.getD undef = .int .i64 k := hinv.sl.old (by decide)
                  go_simp
                  exact hinv.step (i := 9) rfl (by omega) rfl
                | 10, _, hL, ho, hdep, q13 =>
                  injection ho with ho; subst ho
                  dsimp only
                  rw [if_pos (by rfl)]
                  refine ⟨fun f _ => trivial, ?_⟩
                  obtain rfl := hinv.w0 (q13 (by omega))
                  have e58 : a2.tmps[58]?.getD undef = .slice (some ⟨b1, o1, none⟩) cs.length cb := hinv.sl.new (i := 8) (by decide) rfl (hdep ⟨8, .data⟩ (by simp) rfl)
                  have e59 : a2.tmps[59]?.getD undef = .int .i64 k := hinv.sl.new (i := 9) (by decide) rfl (hdep ⟨9, .data⟩ (by simp) rfl)
                  go_simp
                  exact hinv.step (i := 10) rfl (by omega) rfl
                | 11, _, hL, ho, hdep, q13 =>
                  injection ho with ho; subst ho
                  dsimp only
                  rw [if_pos (by rfl)]
                  refine ⟨fun f _ => trivial, ?_⟩
                  obtain rfl := hinv.w0 (q13 (by omega))
                  have e60 : a2.tmps[60]?.getD undef = .pointer (some ⟨b1, o1 + k * 7, none⟩) := hinv.sl.new (i := 10) (by decide) rfl (hdep ⟨10, .data⟩ (by simp) rfl)
                  go_simp
                  exact hinv.step (i := 11) rfl (by omega) rfl
                | 12, _, hL, ho, hdep, q13 =>
                  injection ho with ho; subst ho
                  dsimp only
                  rw [if_pos (by rfl)]
                  refine ⟨fun f _ => trivial, ?_⟩
                  obtain rfl := hinv.w0 (q13 (by omega))
                  have e61 : a2.tmps[61]?.getD undef = .pointer (some ⟨b1, o1 + k * 7 + 4, none⟩) := hinv.sl.new (i := 11) (by decide) rfl (hdep ⟨11, .data⟩ (by simp) rfl)
                  go_simp
                  exact hinv.step (i := 12) rfl (by omega) rfl
                | 13, _, hL, ho, hdep, q13 =>
                  injection ho with ho; subst ho
                  dsimp only
                  rw [if_pos (by rfl)]
                  refine ⟨fun f _ => trivial, ?_⟩
                  obtain rfl := hinv.w0 (getD_ft hL)
                  have e50 : a2.tmps[50]?.getD undef = .agg #[.slice ad us.length cp] := hinv.sl.new (i := 0) (by decide) rfl (hdep ⟨0, .data⟩ (by simp) rfl)
                  have e56 : a2.tmps[56]?.getD undef = .string cs[k].path := hinv.sl.new (i := 6) (by decide) rfl (hdep ⟨6, .data⟩ (by simp) rfl)
                  have e62 : a2.tmps[62]?.getD undef = .agg #[.bool cs[k].new.there, .string cs[k].new.text, .bool cs[k].new.runs] := hinv.sl.new (i := 12) (by decide) rfl (hdep ⟨12, .data⟩ (by simp) rfl)
                  go_simp
                  refine ⟨rfl, CallsIn.mono (callsIn_wide.2 hly) ?_⟩
                  rintro e w' ⟨ad3, cp3, vs, rfl, h1, h2, h3, h4⟩
                  exact hinv.call rfl hL (q14 hL) h1 h2 ((Below.refl wr.heap.size wr).drew.trans (h3.mono (Nat.le_refl _))) h4
                | 14, _, hL, ho, hdep, q13 =>
                  injection ho with ho; subst ho
                  dsimp only
                  rw [if_pos (by rfl)]
                  refine ⟨fun f _ => trivial, ?_⟩
                  obtain ⟨ad3, cp3, vs, ex, h1, h2, h3, h4⟩ := hinv.w1 (hdep ⟨13, .data⟩ (by simp) rfl) (getD_ft hL)
                  have e63 := evalD2 ex
                  have e7 : a2.tmps[7]?.getD undef = .pointer (some ⟨ob, 0, none⟩) := hinv.sl.old (by decide)
                  have oc := cell_later h3 o0
                  have ofc : w9.frozen? ⟨ob, 0, none⟩ = false := (h3.frozen (p := ⟨ob, 0, none⟩) hobq).trans of0
                  go_simp
                  exact hinv.last (hdep ⟨13, .data⟩ (by simp) rfl) hL ⟨ad3, cp3, vs, HE.out ad3 cp3 vs w9 h1 h2 h3 h4⟩
            · obtain rfl : k = cs.length := by omega
              rw [List.take_length] at hAR
              have r2 := cell_later hbq k0q
              have rf2 : wr.frozen? ⟨g, 0, none⟩ = false := (hbq.frozen (p := ⟨g, 0, none⟩) HG2.out.1).trans kfq
              have hgl : g < wr.heap.size := Nat.lt_of_lt_of_le HG2.out.1 hbq.size
              have hst := specTree_any ad cp us wr hel.es (by omega)
              go_wp2_with fail
              refine hst.mono ?_
              rintro e w5 ⟨vb, rfl, hvb, hb5⟩
              have HVB : Keep (vb = true ↔ ValidTs us) := ⟨hvb⟩
              replace r2 := cell_later hb5 r2
              replace o0 := cell_later hb5 o0
              replace rf2 : w5.frozen? ⟨g, 0, none⟩ = false := (hb5.frozen (p := ⟨g, 0, none⟩) hgl).trans rf2
              have hbx5 := hbx3.trans (hb5.mono hbx3.size)
              have hap5 := hel.apart (ob := g) (.inl HB0.out.1)
              have hel5 := hel.below hb5
              cases vb with
              | false =>
                have hnv : ¬ ValidTs us := fun h => by have := HVB.out.2 h; cases this
                have HB : Keep (ApplyPostN ts cs w (.returned (TreeV none ([] : List En).length 0 3)) (w5.setCell ⟨g, 0, none⟩ (.slice none 0 0))) := ⟨⟨[], 3, .inr ⟨hv.1, hv.2, .inr ⟨HSM.out, us, hAR, .inl ⟨hnv, rfl, rfl⟩⟩⟩, ⟨none, 0, rfl, EL.nil _ _ _, .inr ⟨rfl, rfl⟩⟩, hbx5.setCell (p := ⟨g, 0, none⟩) HG2.out.2 _⟩⟩
                clear hst hvb hel hel5 hAR hap hap5
                go_wp2
                refine bodyPost_ret (v := TreeV none ([] : List En).length 0 3) ?_ rfl HB.out
                go_light
                simp [results, Try.results44, go_sem, TreeV, r2]
              | true =>
                have hvv := HVB.out.1 rfl
                have HB : Keep (ApplyPostN ts cs w (.returned (TreeV ad us.length cp 0)) (w5.setCell ⟨g, 0, none⟩ (.slice ad us.length cp))) := ⟨⟨us, 0, .inr ⟨hv.1, hv.2, .inr ⟨HSM.out, us, hAR, .inr ⟨hvv, rfl, rfl⟩⟩⟩, ⟨ad, cp, rfl, (hel5.box hap5).mono HB0.out.2.1, HNN.out⟩, hbx5.setCell (p := ⟨g, 0, none⟩) HG2.out.2 _⟩⟩
                clear hst hvb hel hel5 hAR hap hap5
                go_wp2
                refine bodyPost_ret (v := TreeV ad us.length cp 0) ?_ rfl HB.out
                go_light
                simp [results, Try.results44, go_sem, TreeV, r2]
end Go.Proofs.Ytjlflmbifeocbaa

namespace Go.Proofs.Ytjlflmbifeocbaa
open Go.RowKit

/-- What DrawJoin gives. -/
def DrawnJ (w : World) (e : Ending) (w' : World) : Prop :=
  ∃ p q : Pt, e = .returned (.tuple #[.agg #[.slice p.ad p.cs.length p.cp], .agg #[.slice q.ad q.cs.length q.cp]]) ∧ CS w' p.ad p.cs ∧ CS w' q.ad q.cs ∧ PQ p ∧ PQ q ∧ p.cs.length ≤ p.cp ∧ q.cs.length ≤ q.cp ∧ Below w.heap.size w w'
def dsJn : List Nat := [53, 54, 1000, 1001]
theorem ndJn : dsJn.Nodup := by decide

set_option maxRecDepth 100000 in
set_option maxHeartbeats 8000000 in
theorem drawJoin_any (a : Option Addr) (cap : Nat) (zs : List Int) (w : World) (h : Code0 w a cap zs) :
    Calls Try.prog 15 #[.slice a zs.length cap] w (DrawnJ w) := by
  have hal : Below w.heap.size w ((w.alloc (.cells #[.slice none 0 0] 30)).alloc (.cells #[.slice none 0 0] 30)) := ((Below.refl _ _).alloc (Nat.le_refl _) _).alloc (by simp) _
  have a0 : ((w.alloc (.cells #[.slice none 0 0] 30)).alloc (.cells #[.slice none 0 0] 30)).cell? ⟨w.heap.size, 0, none⟩ = some (.slice none 0 0) ∧ ((w.alloc (.cells #[.slice none 0 0] 30)).alloc (.cells #[.slice none 0 0] 30)).frozen? ⟨w.heap.size, 0, none⟩ = false := by simp [go_sem]
  have b0 : ((w.alloc (.cells #[.slice none 0 0] 30)).alloc (.cells #[.slice none 0 0] 30)).cell? ⟨w.heap.size + 1, 0, none⟩ = some (.slice none 0 0) ∧ ((w.alloc (.cells #[.slice none 0 0] 30)).alloc (.cells #[.slice none 0 0] 30)).frozen? ⟨w.heap.size + 1, 0, none⟩ = false := by simp [go_sem]
  have hsz : ((w.alloc (.cells #[.slice none 0 0] 30)).alloc (.cells #[.slice none 0 0] 30)).heap.size = w.heap.size + 1 + 1 := by simp
  have hop := open_any a cap zs _ (code_laterJ h hal)
  go_enter Try.func15, Try.ntmps15
  go_wp2_with fail
  refine hop.mono ?_
  rintro e w1 ⟨rfl, hb1, hs1, zs', hR1⟩
  rw [hsz] at hR1 hs1 ⊢
  have hRB : RB w (w.heap.size + 1 + 1) w.heap.size (w.heap.size + 1) a cap zs' 0 (.slice none 0 0) (.slice none 0 0) w1 :=
    ⟨hR1, hal.trans (hb1.mono hal.size), cell_later hb1 a0.1, (hb1.frozen (p := ⟨w.heap.size, 0, none⟩) (World.block_lt_of_cell? _ ⟨w.heap.size, 0, none⟩ a0.1)).trans a0.2, cell_later hb1 b0.1, (hb1.frozen (p := ⟨w.heap.size + 1, 0, none⟩) (World.block_lt_of_cell? _ ⟨w.heap.size + 1, 0, none⟩ b0.1)).trans b0.2, by omega⟩
  obtain ⟨g, hg⟩ : ∃ g, g = w.heap.size + 1 + 1 := ⟨_, rfl⟩
  obtain ⟨r3, hr3⟩ : ∃ r3, r3 = w.heap.size + 1 := ⟨_, rfl⟩
  obtain ⟨r2, hr2⟩ : ∃ r2, r2 = w.heap.size := ⟨_, rfl⟩
  have hRB' : RB w g r2 r3 a cap zs' 0 (.slice none 0 0) (.slice none 0 0) w1 := by rw [hg, hr2, hr3]; exact hRB
  rw [← hg, ← hr3, ← hr2]
  have hgw : g < w1.heap.size := hRB'.rd.lt
  clear hRB hop hal a0 b0 hsz hb1 hs1 hR1 hg hr2 hr3
  have hdr := l6Draw_any g a cap zs' 0 w1 hRB'.rd (by omega)
  go_wp2_with fail
  refine hdr.mono ?_
  rintro e w2 ⟨t5, adp, cpp, cs, rfl, hel, hrm, hn, hA, hT, hNil, hpq, ⟨⟨p2, hp2, hR2⟩, hg2⟩⟩
  have hRB2 := hRB'.step hg2 hR2
  have hb5 := below_oneD w2 (.cells #[.slice t5.ad t5.ts.length t5.cp] 25)
  have hb6 := below_oneD (w2.alloc (.cells #[.slice t5.ad t5.ts.length t5.cp] 25)) (.cells #[.slice adp cs.length cpp] 30)
  have hX5 := (TB.new (t := t5) hel hrm hNil).later hb6
  have hX6 : PB w1.heap.size w2.heap.size (w2.heap.size + 1) ⟨adp, cpp, cs⟩ ((w2.alloc (.cells #[.slice t5.ad t5.ts.length t5.cp] 25)).alloc (.cells #[.slice adp cs.length cpp] 30)) := ⟨by simp, by simp, (hpq.1.below hb5).below hb6, PB.upOf (t := ⟨adp, cpp, cs⟩) hpq.1, hpq.2.1⟩
  have hsp := draw6_pat hpq hT
  have hRB3 := (hRB2.later hb5).later hb6
  have hs2 := hg2.size
  have HA : Keep (Asc t5.ts ∧ Tiny 40 20 t5.ts ∧ t5.ts.length ≤ 100) := ⟨⟨hA, hT, hn⟩⟩
  have HP : Keep (TinyC 100 1620 cs ∧ cs.length ≤ 200) := ⟨hsp⟩
  clear hdr hel hg2 hR2 hA hT hpq hsp hRB' hRB2 hb5 hb6 hNil hrm hn
  go_upto_region 3 with fail
  generalize hW3 : (w2.alloc (.cells #[.slice t5.ad t5.ts.length t5.cp] 25)).alloc (.cells #[.slice adp cs.length cpp] 30) = W3 at *
  obtain ⟨b6, hb6⟩ : ∃ b6, b6 = w2.heap.size + 1 := ⟨_, rfl⟩
  rw [← hb6] at hX6 ⊢
  generalize hb5 : w2.heap.size = b5 at *
  generalize hlo : w1.heap.size = lo at *
  have HO : Keep (r3 < g ∧ r2 < r3 ∧ g < lo ∧ lo ≤ b5 ∧ b6 = b5 + 1 ∧ p2 ≤ 500 ∧ w.heap.size ≤ r2) := ⟨by have := hRB3.ord; omega⟩
  clear hW3 hb6 hb5 hlo hs2 hgw hp2
  have c5 := hX5.c
  have c6 := hX6.c
  dsimp only at c6
  go_wp2_with fail
  refine (specApplyN_any t5.ad adp t5.cp cpp t5.ts cs W3 hX5.el.es hX6.el.cs (by have := HA.out; omega) (by have := HP.out; omega) hX5.nl).mono ?_
  rintro e w4 ⟨us7, cc7, hAR, ⟨ad7, cp7, rfl, hel7, hNil7⟩, hbl4⟩
  unfold TreeV
  have hAT := apply_tiny (P := 100) (T := 1620) hAR (HA.out.2.1.wide (by omega) (by omega)) HP.out.1
  have hb7 := below_oneD w4 (.cells #[.slice ad7 us7.length cp7] 25)
  have k7 := VB.new (t := ⟨ad7, cp7, us7⟩) hel7 hNil7
  have k5 := (hX5.later hbl4).later hb7
  have k6 := (hX6.later hbl4).later hb7
  have kR := (hRB3.later hbl4).later hb7
  have hs4 := hbl4.size
  have hl6 := hX6.lt
  have HA7 : Keep (Tiny 100 1500 us7 ∧ us7.length ≤ 100) := ⟨hAT⟩
  clear hX5 hX6 hRB3 hel7 hNil7 hbl4 hAR hAT hb7 c5 c6
  go_upto_region 4 with fail
  have HSa : Keep ((w4.alloc (.cells #[.slice ad7 us7.length cp7] 25)).heap.size = w4.heap.size + 1) := ⟨by simp⟩
  generalize w4.alloc (.cells #[.slice ad7 us7.length cp7] 25) = w5 at *
  generalize hb7 : w4.heap.size = b7 at *
  generalize hlo7 : W3.heap.size = lo7 at *
  have HO2 : Keep (b6 < lo7 ∧ lo7 ≤ b7 ∧ w5.heap.size = b7 + 1) := ⟨by have := HO.out; have := HSa.out; omega⟩
  clear HSa hb7 hlo7 hs4 hl6
  have c7 := k7.c
  dsimp only at c7
  go_wp2_with fail
  refine (l5NearA_any g a cap zs' p2 ad7 cp7 us7 w5 kR.rd (by have := HO.out; omega) k7.el.es k7.nl (HA7.out.1.wide (by omega) (by omega)) (by have := HA7.out; omega)).mono ?_
  rintro e w6 ⟨ad9, cp9, us9, rfl, hel9, hn9, hT9, hNil9, ⟨⟨p6, hp6, hR6⟩, hg6⟩, _, _⟩
  have hb9 := below_oneD w6 (.cells #[.slice ad9 us9.length cp9] 25)
  have j9 := VB.new (t := ⟨ad9, cp9, us9⟩) hel9 hNil9
  have hs6 := hg6.size
  have j7 := (k7.grown hg6 (by have := HO.out; have := HO2.out; omega) (by have := HO.out; have := HO2.out; omega)).later hb9
  have j5 := (k5.grown hg6 (by have := HO.out; omega) (by have := HO.out; omega)).later hb9
  have j6 := (k6.grown hg6 (by have := HO.out; omega) (by have := HO.out; omega)).later hb9
  have jR := (kR.step hg6 hR6).later hb9
  have HA9 : Keep (Tiny 100 1620 us9 ∧ us9.length ≤ 103) := ⟨⟨hT9, hn9⟩⟩
  clear k7 k5 k6 kR hel9 hNil9 hT9 hn9 hb9 hg6 hR6 c7
  go_upto_region 5 with fail
  have HSa : Keep ((w6.alloc (.cells #[.slice ad9 us9.length cp9] 25)).heap.size = w6.heap.size + 1) := ⟨by simp⟩
  generalize w6.alloc (.cells #[.slice ad9 us9.length cp9] 25) = w7 at *
  generalize hb9 : w6.heap.size = b9 at *
  generalize hlo9 : w5.heap.size = lo9 at *
  have HO3 : Keep (b6 < lo7 ∧ lo7 ≤ b7 ∧ lo9 = b7 + 1 ∧ lo9 ≤ b9 ∧ w7.heap.size = b9 + 1 ∧ p6 ≤ 600) := ⟨by have := HO.out; have := HO2.out; have := HSa.out; omega⟩
  clear HSa HO2 hb9 hlo9 hs6 hp6
  go_wp2_with fail
  refine (pick_any g a cap zs' p6 4 w7 jR.rd (by omega) (by omega) (by have := HO3.out; omega)).mono ?_
  rintro e w8 ⟨y4, rfl, hy4, hg8, hR8⟩
  have m5 := j5.grown hg8 (by have := HO.out; omega) (by have := HO.out; omega)
  have m6 := j6.grown hg8 (by have := HO.out; omega) (by have := HO.out; omega)
  have m7 := j7.grown hg8 (by have := HO.out; have := HO3.out; omega) (by have := HO.out; have := HO3.out; omega)
  have m9 := j9.grown hg8 (by have := HO.out; have := HO3.out; omega) (by have := HO.out; have := HO3.out; omega)
  have mR := jR.step hg8 hR8
  clear j5 j6 j7 j9 jR hg8 hR8
  go_upto_if 29 with fail
  go_cut [30] (fun _ wx => ∃ (lo' hi' : Nat) (t9 : Tr), RB w g r2 r3 a cap zs' (p6 + 1) (.slice none 0 0) (.slice none 0 0) wx ∧ PB lo b5 b6 ⟨adp, cpp, cs⟩ wx ∧ VB lo7 b7 b7 ⟨ad7, cp7, us7⟩ wx ∧ VB lo' hi' b9 t9 wx ∧ Keep (Tiny 100 1620 t9.ts ∧ t9.ts.length ≤ 103))
  case first =>
    by_cases y0 : y4 = 0
    · have hB : ((y4 : Int) == 0) = true := by simp; omega
      have z0 := m5.c
      have z1 := m9.c
      have z2 := m9.f
      dsimp only at z1
      have HF : Keep _ := ⟨(⟨mR.box (k := b9) (.slice t5.ad t5.ts.length t5.cp) (by have := HO.out; have := HO3.out; omega), m6.grown (grown_set0 w8 b9 0 (.slice t5.ad t5.ts.length t5.cp)) (by have := HO.out; have := HO3.out; omega) (by have := HO.out; have := HO3.out; omega), m7.grown (grown_set0 w8 b9 0 (.slice t5.ad t5.ts.length t5.cp)) (by have := HO.out; have := HO3.out; omega) (by have := HO.out; have := HO3.out; omega), m9.put (u := t5) m5.el m5.up m5.nl (by have := HO.out; have := HO3.out; omega)⟩ : _ ∧ _ ∧ _ ∧ _)⟩
      clear m5 m6 m7 m9 mR
      go_wp2_with fail
      go_meet
      case rel => exact ⟨_, _, t5, HF.out.1, HF.out.2.1, HF.out.2.2.1, HF.out.2.2.2, ⟨⟨HA.out.2.1.wide (by omega) (by omega), by have := HA.out; omega⟩⟩⟩
    · have hB : ((y4 : Int) == 0) = false := by simp; omega
      have HF : Keep _ := ⟨(⟨mR, m6, m7, m9⟩ : _ ∧ _ ∧ _ ∧ _)⟩
      clear m5 m6 m7 m9 mR
      go_wp2_with fail
      go_meet
      case rel => exact ⟨_, _, ⟨ad9, cp9, us9⟩, HF.out.1, HF.out.2.1, HF.out.2.2.1, HF.out.2.2.2, HA9⟩
  case rest =>
    clear m5 m6 m7 m9 mR
    obtain ⟨lo', hi', t9, mR, m6, m7, m9, HT9⟩ := hcut
    have z7 := m7.c
    have z9 := m9.c
    dsimp only at z7
    go_wp2_with fail
    refine (specDiffC_any ad7 t9.ad cp7 t9.cp us7 t9.ts wc m7.el.es m9.el.es (by have := HA7.out; omega) (by have := HT9.out; omega)).mono ?_
    rintro e w10 ⟨qs, hD, ⟨adq, cpq, rfl, hclq, hrq⟩, hbq⟩
    have hqt := diff_tiny hD (HA7.out.1.wide (Nat.le_refl 100) (show 1500 ≤ 1620 by omega)) HT9.out.1
    have hb10 := below_oneD w10 (.cells #[.slice adq qs.length cpq] 30)
    have n10 := PB.new (t := ⟨adq, cpq, qs⟩) hclq hrq
    have n6 := (m6.later hbq).later hb10
    have nR := (mR.later hbq).later hb10
    have hsq := hbq.size
    have hl9 := m9.lt
    have HQ : Keep (TinyC 100 1620 qs ∧ qs.length ≤ 200) := ⟨hqt⟩
    clear m6 m7 m9 mR hclq hrq hbq hb10 hD hqt z7 z9
    go_upto_region 8 with fail
    generalize w10.alloc (.cells #[.slice adq qs.length cpq] 30) = w11 at *
    generalize hb10 : w10.heap.size = b10 at *
    generalize hloq : wc.heap.size = loq at *
    have HO4 : Keep (b6 < b9 ∧ b9 < loq ∧ loq ≤ b10 ∧ p6 ≤ 600) := ⟨by have := HO3.out; omega⟩
    clear hb10 hloq hsq hl9 HO3 HT9 HA7 HA9
    go_cut [35] (fun v wx => ∃ y : Nat, v = .int .i64 y ∧ y < 8 ∧ RB w g r2 r3 a cap zs' (p6 + 1 + 1) (.slice none 0 0) (.slice none 0 0) wx ∧ PB lo b5 b6 ⟨adp, cpp, cs⟩ wx ∧ PB loq b10 b10 ⟨adq, cpq, qs⟩ wx)
    case first =>
      go_wp2_with fail
      refine (pick_any g a cap zs' (p6 + 1) 8 w11 nR.rd (by omega) (by omega) (by have := HO4.out; omega)).mono ?_
      rintro e w12 ⟨y, rfl, hy, hg12, hR12⟩
      have HR : Keep _ := ⟨nR.step hg12 hR12⟩
      have HP6 : Keep _ := ⟨n6.grown hg12 (by have := HO.out; omega) (by have := HO.out; omega)⟩
      have HP10 : Keep _ := ⟨n10.grown hg12 (by have := HO.out; have := HO4.out; omega) (by have := HO.out; have := HO4.out; omega)⟩
      clear hg12 hR12 nR n6 n10
      go_wp2_with fail
      go_meet
      case rel => exact ⟨y, rfl, hy, HR.out, HP6.out, HP10.out⟩
    case rest =>
      clear nR n6 n10
      obtain ⟨y, rfl, hy, nR, n6, n10⟩ := hcut
      rename_i K1 hk1 K2 hk2
      refine hk2 _ _ ?_
      go_cut [36] (fun _ wx => ∃ (px l6 h6 l10 h10 : Nat) (p q : Pt), RB w g r2 r3 a cap zs' px (.slice none 0 0) (.slice none 0 0) wx ∧ PB l6 h6 b6 p wx ∧ PB l10 h10 b10 q wx ∧ PQ p ∧ PQ q ∧ g < l6 ∧ g < l10)
      case first =>
        have HQp : Keep (PQ ⟨adp, cpp, cs⟩) := ⟨⟨by show cs.length ≤ 310; have := HP.out; omega, HP.out.1.wide (by omega) (by omega)⟩⟩
        have HQq : Keep (PQ ⟨adq, cpq, qs⟩) := ⟨⟨by show qs.length ≤ 310; have := HQ.out; omega, HQ.out.1.wide (by omega) (by omega)⟩⟩
        have hgl : b10 < wc.heap.size := n10.lt
        by_cases y0 : y = 0
        · have hB0 : ((y : Int) == 0) = true := by simp; omega
          clear y0
          have z0 := n10.c
          have z1 := n10.f
          dsimp only at z0
          go_wp2_with fail
          refine (l6Spoil_any g a cap zs' (p6 + 1 + 1) adq cpq qs wc nR.rd (by have := HO4.out; omega) n10.el.cs (HQ.out.1.wide (by omega) (by omega)) (by have := HQ.out; omega)).mono ?_
          rintro e w5 ⟨ad, cp, ds, rfl, hcl, hrm, hl, hTd, ⟨⟨p5, hp5, hR5⟩, hg5⟩⟩
          have hRB5 := nR.step hg5 hR5
          have h1 := n10.grown hg5 (by have := HO.out; have := HO4.out; omega) (by have := HO.out; have := HO4.out; omega)
          have h2 := n6.grown hg5 (by have := HO.out; have := HO4.out; omega) (by have := HO.out; have := HO4.out; omega)
          have hup : (⟨ad, cp, ds⟩ : Pt).cs = [] ∨ ∃ k, blk (⟨ad, cp, ds⟩ : Pt).ad = some k ∧ k < w5.heap.size := PB.upOf (t := ⟨ad, cp, ds⟩) hcl
          have HF : Keep _ := ⟨(⟨hRB5.box (k := b10) (.slice ad ds.length cp) (by have := HO.out; have := HO4.out; omega), h1.put (u := ⟨ad, cp, ds⟩) hcl hup hrm (by have := HO.out; have := HO4.out; omega), h2.grown (grown_set0 w5 b10 0 (.slice ad ds.length cp)) (by have := HO.out; have := HO4.out; omega) (by have := HO.out; have := HO4.out; omega)⟩ : _ ∧ _ ∧ _)⟩
          have z3 := h1.c
          have z4 := h1.f
          dsimp only at z3
          have HN : Keep (PQ ⟨ad, cp, ds⟩) := ⟨⟨hl, hTd⟩⟩
          have HSZ : Keep (g < wc.heap.size ∧ g < lo ∧ g < loq) := ⟨by have := HO.out; have := HO4.out; omega⟩
          clear z0 z1 h1 h2 hRB5 n6 n10 nR hcl hup hg5 hR5
          go_wp2_with fail
          go_meet
          case rel => exact ⟨p5, _, _, _, _, ⟨adp, cpp, cs⟩, ⟨ad, cp, ds⟩, HF.out.1, HF.out.2.2, HF.out.2.1, HQp.out, HN.out, HSZ.out.2.1, HSZ.out.1⟩
        have hB0 : ((y : Int) == 0) = false := by simp; omega
        by_cases y1 : y = 1
        · have hB1 : ((y : Int) == 1) = true := by simp; omega
          clear y0 y1
          have z0 := n6.c
          have z1 := n6.f
          dsimp only at z0
          go_wp2_with fail
          refine (l6Spoil_any g a cap zs' (p6 + 1 + 1) adp cpp cs wc nR.rd (by have := HO4.out; omega) n6.el.cs (HP.out.1.wide (by omega) (by omega)) (by have := HP.out; omega)).mono ?_
          rintro e w5 ⟨ad, cp, ds, rfl, hcl, hrm, hl, hTd, ⟨⟨p5, hp5, hR5⟩, hg5⟩⟩
          have hRB5 := nR.step hg5 hR5
          have h1 := n6.grown hg5 (by have := HO.out; have := HO4.out; omega) (by have := HO.out; have := HO4.out; omega)
          have h2 := n10.grown hg5 (by have := HO.out; have := HO4.out; omega) (by have := HO.out; have := HO4.out; omega)
          have hup : (⟨ad, cp, ds⟩ : Pt).cs = [] ∨ ∃ k, blk (⟨ad, cp, ds⟩ : Pt).ad = some k ∧ k < w5.heap.size := PB.upOf (t := ⟨ad, cp, ds⟩) hcl
          have HF : Keep _ := ⟨(⟨hRB5.box (k := b6) (.slice ad ds.length cp) (by have := HO.out; have := HO4.out; omega), h1.put (u := ⟨ad, cp, ds⟩) hcl hup hrm (by have := HO.out; have := HO4.out; omega), h2.grown (grown_set0 w5 b6 0 (.slice ad ds.length cp)) (by have := HO.out; have := HO4.out; omega) (by have := HO.out; have := HO4.out; omega)⟩ : _ ∧ _ ∧ _)⟩
          have z3 := h1.c
          have z4 := h1.f
          dsimp only at z3
          have HN : Keep (PQ ⟨ad, cp, ds⟩) := ⟨⟨hl, hTd⟩⟩
          have HSZ : Keep (g < wc.heap.size ∧ g < lo ∧ g < loq) := ⟨by have := HO.out; have := HO4.out; omega⟩
          clear z0 z1 h1 h2 hRB5 n6 n10 nR hcl hup hg5 hR5
          go_wp2_with fail
          go_meet
          case rel => exact ⟨p5, _, _, _, _, ⟨ad, cp, ds⟩, ⟨adq, cpq, qs⟩, HF.out.1, HF.out.2.1, HF.out.2.2, HN.out, HQq.out, HSZ.out.1, HSZ.out.2.2⟩
        have hB1 : ((y : Int) == 1) = false := by simp; omega
        by_cases y2 : y = 2
        · have hB2 : ((y : Int) == 2) = true := by simp; omega
          clear y0 y1 y2
          go_wp2_with fail
          refine (l6Draw_any g a cap zs' (p6 + 1 + 1) wc nR.rd (by have := HO4.out; omega)).mono ?_
          rintro e w5 ⟨t', ad, cp, ds, rfl, _, _, _, _, hTt, _, hpq, ⟨⟨p5, hp5, hR5⟩, hg5⟩⟩
          have hcl := hpq.1
          have hrm := hpq.2.1
          have hsp := draw6_pat hpq hTt
          have hl : ds.length ≤ 310 := by omega
          have hTd : TinyC 1100 10000 ds := hsp.1.wide (by omega) (by omega)
          clear hpq hsp hTt
          have hRB5 := nR.step hg5 hR5
          have h1 := n10.grown hg5 (by have := HO.out; have := HO4.out; omega) (by have := HO.out; have := HO4.out; omega)
          have h2 := n6.grown hg5 (by have := HO.out; have := HO4.out; omega) (by have := HO.out; have := HO4.out; omega)
          have hup : (⟨ad, cp, ds⟩ : Pt).cs = [] ∨ ∃ k, blk (⟨ad, cp, ds⟩ : Pt).ad = some k ∧ k < w5.heap.size := PB.upOf (t := ⟨ad, cp, ds⟩) hcl
          have HF : Keep _ := ⟨(⟨hRB5.box (k := b10) (.slice ad ds.length cp) (by have := HO.out; have := HO4.out; omega), h1.put (u := ⟨ad, cp, ds⟩) hcl hup hrm (by have := HO.out; have := HO4.out; omega), h2.grown (grown_set0 w5 b10 0 (.slice ad ds.length cp)) (by have := HO.out; have := HO4.out; omega) (by have := HO.out; have := HO4.out; omega)⟩ : _ ∧ _ ∧ _)⟩
          have z3 := h1.c
          have z4 := h1.f
          dsimp only at z3
          have HN : Keep (PQ ⟨ad, cp, ds⟩) := ⟨⟨hl, hTd⟩⟩
          have HSZ : Keep (g < wc.heap.size ∧ g < lo ∧ g < loq) := ⟨by have := HO.out; have := HO4.out; omega⟩
          clear h1 h2 hRB5 n6 n10 nR hcl hup hg5 hR5
          go_wp2_with fail
          go_meet
          case rel => exact ⟨p5, _, _, _, _, ⟨adp, cpp, cs⟩, ⟨ad, cp, ds⟩, HF.out.1, HF.out.2.2, HF.out.2.1, HQp.out, HN.out, HSZ.out.2.1, HSZ.out.1⟩
        have hB2 : ((y : Int) == 2) = false := by simp; omega
        have HF : Keep _ := ⟨(⟨nR, n6, n10⟩ : _ ∧ _ ∧ _)⟩
        clear nR n6 n10 y0 y1 y2
        go_wp2_with fail
        go_meet
        case rel => exact ⟨_, _, _, _, _, ⟨adp, cpp, cs⟩, ⟨adq, cpq, qs⟩, HF.out.1, HF.out.2.1, HF.out.2.2, HQp.out, HQq.out, by have := HO.out; omega, by have := HO.out; have := HO4.out; omega⟩
      case rest =>
        clear nR n6 n10
        obtain ⟨px, l6, h6, l10, h10, p, q, nR, n6, n10, hQp, hQq, hg6, hg10⟩ := hcut
        have hbd : Below wc.heap.size wc wc.drew := (Below.refl _ _).drew
        have HZ : Keep (∀ n : Nat, IZ w r2 r3 (.slice p.ad p.cs.length p.cp) (.slice q.ad q.cs.length q.cp) (fun W => PB l6 h6 b6 p W ∧ PB l10 h10 b10 q W) (Array.replicate n false) wc.drew) := ⟨fun n => ⟨by rw [getD_repl, getD_repl]; exact nR.rc.later hbd, n6.later hbd, n10.later hbd⟩⟩
        clear nR n6 n10 hbd
        go_upto_region 15 with fail
        refine (wpIn_wide (n := 0)).1 ?_
        refine wpIn_region_inv0 (by kernel_rfl) (by kernel_rfl) (fun T0 => EVF T0 dsJn (zTab2 (.agg #[.slice p.ad p.cs.length p.cp]) (.agg #[.slice q.ad q.cs.length q.cp])) (fun _ _ _ => True) (IZ w r2 r3 (.slice p.ad p.cs.length p.cp) (.slice q.ad q.cs.length q.cp) (fun W => PB l6 h6 b6 p W ∧ PB l10 h10 b10 q W))) ?_ ?_ ?_
        · exact ⟨Sl2.start _, HZ.out _, fun _ _ _ => trivial⟩
        · intro L a2 w9 hinv hall
          have hZ := hinv.wd
          have hz2 := hall 2 (by decide)
          have hz3 := hall 3 (by decide)
          have HXX : Keep _ := ⟨hinv.sl.act⟩
          have c2 := hZ.rb.c2
          have c3 := hZ.rb.c3
          rw [hz2] at c2
          rw [hz3] at c3
          replace c2 : w9.cell? ⟨r2, 0, none⟩ = some (.slice p.ad p.cs.length p.cp) := c2
          replace c3 : w9.cell? ⟨r3, 0, none⟩ = some (.slice q.ad q.cs.length q.cp) := c3
          have HZZ : Keep _ := ⟨hZ⟩
          clear hinv hall hZ hz2 hz3 HZ
          rw [HXX.out]
          simp only [updL, dsJn, List.contains_cons, List.contains_nil, Nat.reduceAdd, Nat.reduceBEq, Bool.or_false, cond_false, cond_true, Bool.or_true]
          go_wp2
          refine bodyPost_ret (v := .tuple #[.agg #[.slice p.ad p.cs.length p.cp], .agg #[.slice q.ad q.cs.length q.cp]]) ?_ rfl ⟨p, q, rfl, HZZ.out.ab.1.el.cs, HZZ.out.ab.2.el.cs, hQp, hQq, HZZ.out.ab.1.rm, HZZ.out.ab.2.rm, HZZ.out.rb.bw⟩
          go_light
          simp [results, Try.results15, go_sem, c2, c3]
        · intro L a2 w9 i o hinv hcl hL ho hdep
          have hin : i < 4 := (Array.getElem?_eq_some_iff.1 ho).1
          unfold wpOpIn
          rw [ho]
          clear hcl HZ
          match i, hin, hL, ho, hdep with
          | 0, _, hL, ho, hdep =>
            injection ho with ho; subst ho
            dsimp only
            rw [if_pos (by rfl)]
            refine ⟨fun f _ => trivial, ?_⟩
            have e0 : a2.tmps[6]?.getD undef = .pointer (some ⟨b6, 0, none⟩) := hinv.sl.old (by decide)
            have z0 : w9.cell? ⟨b6, 0, none⟩ = some (.slice p.ad p.cs.length p.cp) := hinv.wd.ab.1.c
            go_simp
            exact hinv.step ndJn (fun _ _ _ => trivial) (i := 0) (by decide) (by show 53 < 55; decide) (fun u hu => by cases hu; rfl) trivial (hinv.wd.keep (by omega) (by omega))
          | 1, _, hL, ho, hdep =>
            injection ho with ho; subst ho
            dsimp only
            rw [if_pos (by rfl)]
            refine ⟨fun f _ => trivial, ?_⟩
            have e0 : a2.tmps[10]?.getD undef = .pointer (some ⟨b10, 0, none⟩) := hinv.sl.old (by decide)
            have z0 : w9.cell? ⟨b10, 0, none⟩ = some (.slice q.ad q.cs.length q.cp) := hinv.wd.ab.2.c
            go_simp
            exact hinv.step ndJn (fun _ _ _ => trivial) (i := 1) (by decide) (by show 54 < 55; decide) (fun u hu => by cases hu; rfl) trivial (hinv.wd.keep (by omega) (by omega))
          | 2, _, hL, ho, hdep =>
            injection ho with ho; subst ho
            dsimp only
            rw [if_pos (by rfl)]
            refine ⟨fun f _ => trivial, ?_⟩
            have e2 : a2.tmps[2]?.getD undef = .pointer (some ⟨r2, 0, none⟩) := hinv.sl.old (by decide)
            have e9 : a2.tmps[53]?.getD undef = .agg #[.slice p.ad p.cs.length p.cp] := hinv.sl.new (i := 0) (by decide) rfl (hdep ⟨0, .data⟩ (by simp) rfl)
            have z0 := hinv.wd.rb.c2
            have z1 := hinv.wd.rb.f2
            go_simp
            exact hinv.skip (fun _ _ _ => trivial) (i := 2) rfl (fun _ => trivial) (hinv.wd.st2 hL (fun W v hh => ⟨hh.1.grown (grown_set0 W r2 0 v) (by have := HO.out; have := HO4.out; omega) (by have := HO.out; have := HO4.out; omega), hh.2.grown (grown_set0 W r2 0 v) (by have := HO.out; have := HO4.out; omega) (by have := HO.out; have := HO4.out; omega)⟩))
          | 3, _, hL, ho, hdep =>
            injection ho with ho; subst ho
            dsimp only
            rw [if_pos (by rfl)]
            refine ⟨fun f _ => trivial, ?_⟩
            have e2 : a2.tmps[3]?.getD undef = .pointer (some ⟨r3, 0, none⟩) := hinv.sl.old (by decide)
            have e9 : a2.tmps[54]?.getD undef = .agg #[.slice q.ad q.cs.length q.cp] := hinv.sl.new (i := 1) (by decide) rfl (hdep ⟨1, .data⟩ (by simp) rfl)
            have z0 := hinv.wd.rb.c3
            have z1 := hinv.wd.rb.f3
            go_simp
            exact hinv.skip (fun _ _ _ => trivial) (i := 3) rfl (fun _ => trivial) (hinv.wd.st3 hL (fun W v hh => ⟨hh.1.grown (grown_set0 W r3 0 v) (by have := HO.out; have := HO4.out; omega) (by have := HO.out; have := HO4.out; omega), hh.2.grown (grown_set0 W r3 0 v) (by have := HO.out; have := HO4.out; omega) (by have := HO.out; have := HO4.out; omega)⟩))
end Go.Proofs.Ytjlflmbifeocbaa
