/-
  What impl.Join leans on: changes in boxes, a list in the making beside them; stay; the rounds, plain.
-/
import Derived.Test.YtebgoligoeklbaaSideC
import Derived.Test.YtebgoligoeklbaaJnA
import Derived.Test.YtebgoligoeklbaaJoinP
import Derived.Test.YtebgoligoeklbaaChgI
import Derived.Test.YtebgoligoeklbaaChgN
import Derived.Test.YtebgoligoeklbaaJnP
namespace Go.Proofs.Ytebgoligoeklbaa
open Go.RowKit Go.Shelf

theorem sideC_iter (Ba Bb : Nat) (a b : Option Addr) (ca cb : Nat) (ts us : List Ch) (hca : ts.length ≤ ca) (hcb : us.length ≤ cb) (hnt : ts.length ≤ 1048576) (hnu : us.length ≤ 1048576) :
    Iter 46 #[.pointer (some ⟨Ba, 0, none⟩), .pointer (some ⟨Bb, 0, none⟩)] yC (mrgC ts us) (sideMemC Ba Bb a b ca cb ts us) :=
  fun n l J Jx W hM hJ hY h0 => sideC1_in n l Ba Bb a b ca cb ts us hca hcb hnt hnu J Jx W hM hJ hY h0

set_option maxRecDepth 20000 in
set_option maxHeartbeats 1000000 in
theorem stay_any (p : ByteArray) (f : Fl) (w : World) : Calls Try.prog 25 #[.string p, .agg #[.bool f.there, .string f.text, .bool f.runs]] w fun e w' => e = .returned (.agg #[.string p, .bool f.there, .string f.text, .bool f.runs, .bool f.there, .string f.text, .bool f.runs]) ∧ Below w.heap.size w w' := by
  have hal : Below w.heap.size w (w.alloc (.cells #[.bool f.there, .string f.text, .bool f.runs] 52)) := (Below.refl _ _).alloc (Nat.le_refl _) _
  have hal2 : Below w.heap.size w ((w.alloc (.cells #[.bool f.there, .string f.text, .bool f.runs] 52)).alloc (.cells #[.string ⟨#[]⟩, .bool false, .string ⟨#[]⟩, .bool false, .bool false, .string ⟨#[]⟩, .bool false] 54)) := hal.alloc (by simp) _
  go_enter Try.func25, Try.ntmps25
  go_wp2
  refine bodyPost_ret (v := .agg #[.string p, .bool f.there, .string f.text, .bool f.runs, .bool f.there, .string f.text, .bool f.runs]) ?_ rfl ⟨rfl, ?_⟩
  · go_light
    simp [results, Try.results25, go_sem]
  · first | exact hal.alloc (by simp) _ | exact box7_below _ _ _ _ _ _ _ hal2 (by omega)

theorem box7_grown {X : World} {g : Nat} (v0 v1 v2 v3 v4 v5 v6 : Value) : X.grownBy (((((((X.setCell ⟨g, 0, none⟩ v0).setCell ⟨g, 1, none⟩ v1).setCell ⟨g, 2, none⟩ v2).setCell ⟨g, 3, none⟩ v3).setCell ⟨g, 4, none⟩ v4).setCell ⟨g, 5, none⟩ v5).setCell ⟨g, 6, none⟩ v6) (some g) :=
  have h : ∀ (Y : World) (j : Nat) (v : Value), Y.grownBy (Y.setCell ⟨g, j, none⟩ v) (some g) := fun Y j v => ⟨rfl, rfl, rfl, by simp, fun k _ hk => Below.heap_setCell _ _ _ _ (fun e => hk (by rw [e]))⟩
  have t : ∀ {A B C : World}, A.grownBy B (some g) → B.grownBy C (some g) → A.grownBy C (some g) := fun a b => ⟨b.os.trans a.os, b.tape.trans a.tape, b.output.trans a.output, Nat.le_trans a.size b.size, fun k hk hne => (b.block k (Nat.lt_of_lt_of_le hk a.size) hne).trans (a.block k hk hne)⟩
  t (t (t (t (t (t (h _ _ _) (h _ _ _)) (h _ _ _)) (h _ _ _)) (h _ _ _)) (h _ _ _)) (h _ _ _)

/-- A change in a box. -/
structure CBox (b : Nat) (c : Ch) (W : World) : Prop where
  c0 : W.cell? ⟨b, 0, none⟩ = some (.string c.path)
  c1 : W.cell? ⟨b, 1, none⟩ = some (.bool c.old.there)
  c2 : W.cell? ⟨b, 2, none⟩ = some (.string c.old.text)
  c3 : W.cell? ⟨b, 3, none⟩ = some (.bool c.old.runs)
  c4 : W.cell? ⟨b, 4, none⟩ = some (.bool c.new.there)
  c5 : W.cell? ⟨b, 5, none⟩ = some (.string c.new.text)
  c6 : W.cell? ⟨b, 6, none⟩ = some (.bool c.new.runs)
  fz : ∀ j, W.frozen? ⟨b, j, none⟩ = false
  lt : b < W.heap.size
theorem CBox.block {b : Nat} {c : Ch} {W W' : World} (h : CBox b c W) (hb : W'.heap[b]? = W.heap[b]?) : CBox b c W' :=
  ⟨(World.cell?_of_block hb).trans h.c0, (World.cell?_of_block hb).trans h.c1, (World.cell?_of_block hb).trans h.c2, (World.cell?_of_block hb).trans h.c3, (World.cell?_of_block hb).trans h.c4, (World.cell?_of_block hb).trans h.c5, (World.cell?_of_block hb).trans h.c6, fun j => frozen_of hb (h.fz j), by
    have := Array.getElem?_eq_getElem h.lt
    rw [this] at hb
    exact (Array.getElem?_eq_some_iff.1 hb).1⟩
theorem CBox.later {b : Nat} {c : Ch} {W W' : World} (h : CBox b c W) (hb : Below W.heap.size W W') : CBox b c W' := h.block (hb.block b h.lt)
theorem CBox.put {b l : Nat} {c : Ch} {W : World} (h : CBox b c W) (o : Obj) (hl : l ≠ b) : CBox b c (W.putObj l o) := h.block (World.putObj_heap_other (fun e => hl e.symm))
theorem CBox.grown {b : Nat} {c : Ch} {W W' : World} {row : Option Nat} (h : CBox b c W) (hg : W.grownBy W' row) (hr : row ≠ some b) : CBox b c W' := h.block (hg.block b h.lt (fun e => hr e.symm))
theorem CBox.set {g : Nat} {c : Ch} {X : World} (h : CBox g c X) (d : Ch) : CBox g d (((((((X.setCell ⟨g, 0, none⟩ (.string d.path)).setCell ⟨g, 1, none⟩ (.bool d.old.there)).setCell ⟨g, 2, none⟩ (.string d.old.text)).setCell ⟨g, 3, none⟩ (.bool d.old.runs)).setCell ⟨g, 4, none⟩ (.bool d.new.there)).setCell ⟨g, 5, none⟩ (.string d.new.text)).setCell ⟨g, 6, none⟩ (.bool d.new.runs)) := by
  obtain ⟨z0, z1, z2, z3, z4, z5, z6⟩ := box7_set (.string d.path) (.bool d.old.there) (.string d.old.text) (.bool d.old.runs) (.bool d.new.there) (.string d.new.text) (.bool d.new.runs) h.c0 h.c1 h.c2 h.c3 h.c4 h.c5 h.c6
  exact ⟨z0, z1, z2, z3, z4, z5, z6, fun j => (box7_fz (.string d.path) (.bool d.old.there) (.string d.old.text) (.bool d.old.runs) (.bool d.new.there) (.string d.new.text) (.bool d.new.runs)).trans (h.fz j), by simpa using h.lt⟩

theorem OutCh.own_lt {h : Nat} {W0 W : World} {v : Value} {us : List Ch} (s : OutCh h W0 v us W) {k : Nat} (hk : v.ownBlock = some k) : k < W.heap.size := by
  rcases s.row.2 with ⟨e, _⟩ | ⟨g, cap, cur, e, _, hg, _⟩
  · rw [e] at hk; simp [Value.ownBlock] at hk
  · rw [e] at hk; simp [Value.ownBlock] at hk; subst hk; exact (Array.getElem?_eq_some_iff.1 hg).1
theorem OutCh.other {h B : Nat} {W0 W W' : World} {v : Value} {us : List Ch} (s : OutCh h W0 v us W) (hg : W.grownBy W' (some B)) (hB : W0.heap.size ≤ B) (hv : v.ownBlock ≠ some B) : OutCh h W0 v us W' := by
  have hl := s.lt
  have hh := hg.block h s.size (fun e => by cases e; omega)
  refine ⟨(World.cell?_of_block hh).trans s.cell, frozen_of hh s.fz, s.row.kept hg (Or.inr hv), ⟨hg.os.trans s.grown.os, hg.tape.trans s.grown.tape, hg.output.trans s.grown.output, Nat.le_trans s.grown.size hg.size, fun k hk hne => ?_⟩, hl⟩
  exact (hg.block k (Nat.lt_of_lt_of_le hk s.grown.size) (fun e => by cases e; omega)).trans (s.grown.block k hk hne)
theorem OutCh.putJ {h l : Nat} {W0 W : World} {v : Value} {us : List Ch} (s : OutCh h W0 v us W) (o : Obj) (hl : l < W0.heap.size) (hne : l ≠ h) : OutCh h (W0.putObj l o) v us (W.putObj l o) := by
  have hb : ∀ (X : World) (k : Nat), k ≠ l → (X.putObj l o).heap[k]? = X.heap[k]? := fun X k hk => World.putObj_heap_other hk
  have hh := hb W h (fun e => hne e.symm)
  have hg : W.grownBy (W.putObj l o) (some l) := ⟨rfl, rfl, rfl, by simp, fun k _ hk => hb W k (fun e => hk (by rw [e]))⟩
  have hlW := Nat.lt_of_lt_of_le hl s.grown.size
  refine ⟨(World.cell?_of_block hh).trans s.cell, frozen_of hh s.fz, ?_, ⟨s.grown.os, s.grown.tape, s.grown.output, by simpa using s.grown.size, fun k hk hkh => ?_⟩, by simpa using s.lt⟩
  · have h1 := s.row.kept hg (Or.inr (fun e => by have := owns_row_ge s.row e; omega))
    simpa using h1
  · have hk' : k < W0.heap.size := by simpa using hk
    by_cases e : k = l
    · subst e
      rw [World.putObj_heap_same hlW, World.putObj_heap_same hl]
    · rw [hb W k e, hb W0 k e]
      exact s.grown.block k hk' hkh

def chgL (p : ByteArray) (f g : Fl) : List Ch := if sameF f g = true then [] else [⟨p, f, g⟩]
theorem chg_pair (ob : Nat) (Wz : World) (v : Value) (us : List Ch) (p : ByteArray) (f g : Fl) (w : World) (hst : OutCh ob Wz v us w) (hul : us.length ≤ 1048576) (hp : p.size ≤ 1048576) (hx : f.text.size ≤ 1048576) (hy : g.text.size ≤ 1048576) :
    Calls Try.prog 26 #[.pointer (some ⟨ob, 0, none⟩), .string p, .agg #[.bool f.there, .string f.text, .bool f.runs], .agg #[.bool g.there, .string g.text, .bool g.runs]] w fun e w' => e = .returned (.tuple #[]) ∧ ∃ v', OutCh ob Wz v' (us ++ chgL p f g) w' := by
  unfold chgL
  cases hs : sameF f g with
  | true =>
    refine (change_none ob p f g w hs).mono ?_
    rintro e w' ⟨rfl, hb⟩
    exact ⟨rfl, v, by simpa using hst.later hb⟩
  | false =>
    refine (change_any ob Wz v us ⟨p, f, g⟩ w hst hul hs (by show p.size ≤ _; omega) (by show f.text.size ≤ _; omega) (by show g.text.size ≤ _; omega)).mono ?_
    rintro e w' ⟨rfl, ad, cap, h⟩
    exact ⟨rfl, _, by simpa using h⟩

def outsJ (pre : List PC) : List Ch := pre.flatMap fun x => outJ2 x.1 x.2.1 x.2.2
theorem outsJ_snoc (pre : List PC) (x : PC) : outsJ (pre ++ [x]) = outsJ pre ++ outJ2 x.1 x.2.1 x.2.2 := by simp [outsJ]
theorem outsJ_len (pre : List PC) : (outsJ pre).length ≤ pre.length := by
  induction pre with
  | nil => simp [outsJ]
  | cons x pre ih =>
    have h1 : outsJ (x :: pre) = outJ2 x.1 x.2.1 x.2.2 ++ outsJ pre := by simp [outsJ]
    have h2 := outJ2_len x.1 x.2.1 x.2.2
    rw [h1, List.length_append, List.length_cons]
    omega
theorem validP_ok {cs : List Ch} (h : ValidP cs) {c : Ch} (hc : c ∈ cs) : chOk c = true := by
  obtain ⟨i, hi, rfl⟩ := List.getElem_of_mem hc
  obtain ⟨_, h1, _⟩ := h.2 i hi
  exact h1
theorem validP_asc {cs : List Ch} (h : ValidP cs) : AscK Ch.path cs := by
  have key : ∀ i, i < cs.length → ∀ j, j < i → ∀ (hi : i < cs.length) (hj : j < cs.length), Op.bytesLess cs[j].path.toList cs[i].path.toList = true := by
    intro i
    induction i with
    | zero => intro _ j hj; omega
    | succ i ih =>
      intro hi j hj hi' hj'
      obtain ⟨_, _, h1⟩ := h.2 (i + 1) hi
      have h2 := h1 i rfl (by omega)
      by_cases e : j = i
      · subst e; exact h2
      · exact less_trans (ih (by omega) j (by omega) (by omega) hj') h2
  exact List.pairwise_iff_getElem.2 fun i j hi hj hij => key j hj i hij hj hi
theorem mrgC_is {p q : List Ch} (hp : ValidP p) (hq : ValidP q) : mrgC p q = (joinNs p q).map fun n => (n, fnd Ch.path p n, fnd Ch.path q n) :=
  mrg_eq Ch.path Ch.path (p.length + q.length) p q (joinNs p q) (Nat.le_refl _) (validP_asc hp) (validP_asc hq) (joinNs_mem p q).1 (joinNs_mem p q).2
theorem outs_join {p q : List Ch} (hp : ValidP p) (hq : ValidP q) : outsJ (mrgC p q) = joinN p q (joinNs p q) := by
  rw [mrgC_is hp hq]
  unfold outsJ joinN
  rw [List.flatMap_map]
  rfl
theorem mrg_lenJ {α β : Type} (pa : α → ByteArray) (pb : β → ByteArray) : ∀ (n : Nat) (ts : List α) (us : List β), (mrg pa pb n ts us).length ≤ n
  | 0, _, _ => by simp [mrg]
  | n + 1, [], [] => by simp [mrg]
  | n + 1, [], y :: us => by have := mrg_lenJ pa pb n [] us; simp only [mrg, List.length_cons]; omega
  | n + 1, x :: ts, [] => by have := mrg_lenJ pa pb n ts []; simp only [mrg, List.length_cons]; omega
  | n + 1, x :: ts, y :: us => by
    have h1 := mrg_lenJ pa pb n ts (y :: us)
    have h2 := mrg_lenJ pa pb n (x :: ts) us
    have h3 := mrg_lenJ pa pb n ts us
    simp only [mrg]
    split
    · simp only [List.length_cons]; omega
    · split
      · simp only [List.length_cons]; omega
      · simp only [List.length_cons]; omega
/-- Which of the two lists have a path. -/
theorem mrgC_cases {p q : List Ch} (hp : ValidP p) (hq : ValidP q) {x : PC} (hx : x ∈ mrgC p q) :
    (∃ d ∈ q, x = (d.path, none, some d)) ∨ (∃ c ∈ p, x = (c.path, some c, none)) ∨ ∃ c ∈ p, ∃ d ∈ q, d.path = c.path ∧ x = (c.path, some c, some d) := by
  rw [mrgC_is hp hq] at hx
  obtain ⟨n, hn, rfl⟩ := List.mem_map.1 hx
  cases h1 : fnd Ch.path p n with
  | none =>
    cases h2 : fnd Ch.path q n with
    | none =>
      exfalso
      rcases (joinNs_mem p q).2 n |>.1 hn with ⟨z, hz, hzn⟩ | ⟨z, hz, hzn⟩
      · unfold fnd at h1
        rw [List.find?_eq_none] at h1
        exact h1 z hz (eqb_iff.2 hzn)
      · unfold fnd at h2
        rw [List.find?_eq_none] at h2
        exact h2 z hz (eqb_iff.2 hzn)
    | some d =>
      obtain ⟨h3, rfl⟩ := fnd_some h2
      exact .inl ⟨d, h3, rfl⟩
  | some c =>
    obtain ⟨h3, rfl⟩ := fnd_some h1
    cases h2 : fnd Ch.path q c.path with
    | none => exact .inr (.inl ⟨c, h3, rfl⟩)
    | some d =>
      obtain ⟨h4, h5⟩ := fnd_some h2
      exact .inr (.inr ⟨c, h3, d, h4, h5, rfl⟩)
theorem chOk_parts {c : Ch} (h : chOk c = true) : (c.path.toList == ([] : List UInt8)) = false ∧ sameF c.old c.new = false ∧ c.old.text.size ≤ 1500 ∧ c.new.text.size ≤ 1500 := by
  simp only [chOk, flOk, Bool.and_eq_true, decide_eq_true_eq, Bool.not_eq_true'] at h
  obtain ⟨⟨⟨h1, h2, _⟩, h3, _⟩, h4⟩ := h
  refine ⟨?_, h4, h2, h3⟩
  rw [Bool.eq_false_iff]
  intro e
  have e1 : c.path = ⟨#[]⟩ := WideShapes.bytes_inj (by rw [← Lib.toList_data, (by simpa using e : c.path.toList = [])])
  rw [e1] at h1
  revert h1
  decide
end Go.Proofs.Ytebgoligoeklbaa
