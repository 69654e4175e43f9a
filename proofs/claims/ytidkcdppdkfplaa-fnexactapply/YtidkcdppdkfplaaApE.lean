/-
  FilP, AppB, AppR: laid as one text.
-/
import Derived.Test.YtidkcdppdkfplaaApB
import Derived.Test.YtidkcdppdkfplaaMrgP
import Derived.Test.YtidkcdppdkfplaaTreeU
import Derived.Test.YtidkcdppdkfplaaSideEC
import Derived.Test.YtidkcdppdkfplaaApC
import Derived.Test.YtidkcdppdkfplaaAppP
import Derived.Test.YtidkcdppdkfplaaApD
import Derived.Test.YtidkcdppdkfplaaApI
import Derived.Test.YtidkcdppdkfplaaImplTree
import Derived.Test.YtidkcdppdkfplaaEntOf
import Derived.Deep.AppendLies
namespace Go.Proofs.Ytidkcdppdkfplaa
open Go.RowKit

theorem path_ne0 {s : ByteArray} (h : pathOk pathB s = true) : (s.toList == ([] : List UInt8)) = false := by
  rw [Bool.eq_false_iff]
  intro e
  have e1 : s = ⟨#[]⟩ := WideShapes.bytes_inj (by rw [← Lib.toList_data, (by simpa using e : s.toList = [])])
  subst e1
  revert h
  decide
theorem valid_en {ts : List En} (h : ValidTs ts) {e : En} (he : e ∈ ts) : enOk e = true := by
  obtain ⟨i, hi, rfl⟩ := List.getElem_of_mem he
  obtain ⟨_, h1, _⟩ := h.2 i hi
  exact h1
theorem valid_path {ts : List En} (h : ValidTs ts) {e : En} (he : e ∈ ts) : (e.path.toList == ([] : List UInt8)) = false := by
  have h1 := valid_en h he
  simp only [enOk, Bool.and_eq_true] at h1
  exact path_ne0 h1.1
theorem fileE_zero : fileE zeroE = noFl := by
  unfold fileE zeroE noFl
  have : isZ ⟨⟨#[]⟩, ⟨#[]⟩, false⟩ = true := by simp [isZ]
  rw [this]
  rfl
theorem fileE_some {e : En} (h : (e.path.toList == ([] : List UInt8)) = false) : fileE e = ⟨true, e.text, e.runs⟩ := by
  unfold fileE isZ
  rw [h]
  rfl
theorem fileE_at {ts : List En} (h : ValidTs ts) (p : ByteArray) : fileE ((fnd En.path ts p).getD zeroE) = atL ts p := by
  unfold atL
  show _ = match fnd En.path ts p with | some e => (⟨true, e.text, e.runs⟩ : Fl) | none => noFl
  cases hf : fnd En.path ts p with
  | none => exact fileE_zero
  | some e => exact fileE_some (valid_path h (fnd_some hf).1)
end Go.Proofs.Ytidkcdppdkfplaa

namespace Go.Proofs.Ytidkcdppdkfplaa
open Go.RowKit Go.Shelf

theorem sideEC_iter (Ba Bb : Nat) (a b : Option Addr) (ca cb : Nat) (ts : List En) (us : List Ch) (hca : ts.length ≤ ca) (hcb : us.length ≤ cb) (hnt : ts.length ≤ 1048576) (hnu : us.length ≤ 1048576) :
    Iter 45 #[.pointer (some ⟨Ba, 0, none⟩), .pointer (some ⟨Bb, 0, none⟩)] yEC (mrgEC ts us) (sideMemEC Ba Bb a b ca cb ts us) :=
  fun n l J Jx W hM hJ hY h0 => sideEC1_in n l Ba Bb a b ca cb ts us hca hcb hnt hnu J Jx W hM hJ hY h0

theorem OutSt.own_lt {h : Nat} {W0 W : World} {v : Value} {us : List En} (s : OutSt h W0 v us W) {k : Nat} (hk : v.ownBlock = some k) : k < W.heap.size := by
  rcases s.row.2 with ⟨e, _⟩ | ⟨g, cap, cur, e, _, hg, _⟩
  · rw [e] at hk; simp [Value.ownBlock] at hk
  · rw [e] at hk; simp [Value.ownBlock] at hk; subst hk; exact (Array.getElem?_eq_some_iff.1 hg).1
theorem OutSt.other {h B : Nat} {W0 W W' : World} {v : Value} {us : List En} (s : OutSt h W0 v us W) (hg : W.grownBy W' (some B)) (hB : W0.heap.size ≤ B) (hv : v.ownBlock ≠ some B) : OutSt h W0 v us W' := by
  have hl := s.lt
  have hh := hg.block h s.size (fun e => by cases e; omega)
  refine ⟨(World.cell?_of_block hh).trans s.cell, frozen_of hh s.fz, s.row.kept hg (Or.inr hv), ⟨hg.os.trans s.grown.os, hg.tape.trans s.grown.tape, hg.output.trans s.grown.output, Nat.le_trans s.grown.size hg.size, fun k hk hne => ?_⟩, hl⟩
  exact (hg.block k (Nat.lt_of_lt_of_le hk s.grown.size) (fun e => by cases e; omega)).trans (s.grown.block k hk hne)
theorem OutSt.putJ {h l : Nat} {W0 W : World} {v : Value} {us : List En} (s : OutSt h W0 v us W) (o : Obj) (hl : l < W0.heap.size) (hne : l ≠ h) : OutSt h (W0.putObj l o) v us (W.putObj l o) := by
  have hb : ∀ (X : World) (k : Nat), k ≠ l → (X.putObj l o).heap[k]? = X.heap[k]? := fun X k hk => World.putObj_heap_other hk
  have hh := hb W h (fun e => hne e.symm)
  have hg : W.grownBy (W.putObj l o) (some l) := ⟨rfl, rfl, rfl, by simp, fun k _ hk => hb W k (fun e => hk (by rw [e]))⟩
  have hlW := Nat.lt_of_lt_of_le hl s.grown.size
  refine ⟨(World.cell?_of_block hh).trans s.cell, frozen_of hh s.fz, ?_, ⟨s.grown.os, s.grown.tape, s.grown.output, by simpa using s.grown.size, fun k hk hkh => ?_⟩, by simpa using s.lt⟩
  · have h1 := s.row.kept hg (Or.inr (fun e => by have := owns_row_ge s.row e; omega))
    simpa using h1
  · have hk' : k < W0.heap.size := by simpa using hk
    by_cases e : k = l
    · subst e
      rw [World.putObj_heap_same hlW, World.putObj_heap_same hl]
    · rw [hb W k e, hb W0 k e]
      exact s.grown.block k hk' hkh


def outsA (pre : List PEC) : List En := pre.flatMap fun x => outA zeroE x.2.1 x.2.2
theorem outsA_snoc (pre : List PEC) (x : PEC) : outsA (pre ++ [x]) = outsA pre ++ outA zeroE x.2.1 x.2.2 := by simp [outsA]
theorem outA_len (z : En) (e : Option En) (c : Option Ch) : (outA z e c).length ≤ 1 := by
  cases c with
  | none => rw [outA_none]; simp
  | some c => rw [outA_some]; split <;> simp
theorem outsA_len (pre : List PEC) : (outsA pre).length ≤ pre.length := by
  induction pre with
  | nil => simp [outsA]
  | cons x pre ih =>
    have h1 : outsA (x :: pre) = outA zeroE x.2.1 x.2.2 ++ outsA pre := by simp [outsA]
    have h2 := outA_len zeroE x.2.1 x.2.2
    rw [h1, List.length_append, List.length_cons]
    omega

theorem mrg_lenA {α β : Type} (pa : α → ByteArray) (pb : β → ByteArray) : ∀ (n : Nat) (ts : List α) (us : List β), (mrg pa pb n ts us).length ≤ n
  | 0, _, _ => by simp [mrg]
  | n + 1, [], [] => by simp [mrg]
  | n + 1, [], y :: us => by have := mrg_lenA pa pb n [] us; simp only [mrg, List.length_cons]; omega
  | n + 1, x :: ts, [] => by have := mrg_lenA pa pb n ts []; simp only [mrg, List.length_cons]; omega
  | n + 1, x :: ts, y :: us => by
    have h1 := mrg_lenA pa pb n ts (y :: us)
    have h2 := mrg_lenA pa pb n (x :: ts) us
    have h3 := mrg_lenA pa pb n ts us
    simp only [mrg]
    split
    · simp only [List.length_cons]; omega
    · split
      · simp only [List.length_cons]; omega
      · simp only [List.length_cons]; omega
theorem names_of : ∀ l : List ByteArray, ∃ ns, AscN ns ∧ ∀ p, p ∈ ns ↔ p ∈ l
  | [] => ⟨[], List.Pairwise.nil, fun p => Iff.rfl⟩
  | q :: l => by
    obtain ⟨ns, h1, h2⟩ := names_of l
    have h3 := nameL_asc (s := q) h1
    refine ⟨nameL ns q, h3.1, fun p => ?_⟩
    rw [h3.2, h2, List.mem_cons]
    exact ⟨fun h => h.elim .inr .inl, fun h => h.elim .inr .inl⟩
theorem vp_asc {cs : List Ch} (h : ValidP cs) : AscK Ch.path cs := by
  have key : ∀ i, i < cs.length → ∀ j, j < i → ∀ (hi : i < cs.length) (hj : j < cs.length), Op.bytesLess cs[j].path.toList cs[i].path.toList = true := by
    intro i
    induction i with
    | zero => intro _ j hj; omega
    | succ i ih =>
      intro hi j hj hi' hj'
      obtain ⟨_, _, h1⟩ := h.2 (i + 1) hi
      have h2 := h1 i rfl (by omega)
      by_cases e : j = i
      · subst e; exact h2
      · exact less_trans (ih (by omega) j (by omega) (by omega) hj') h2
  exact List.pairwise_iff_getElem.2 fun i j hi hj hij => key j hj i hij hj hi
theorem mrgEC_rows {ts : List En} {cs : List Ch} (ht : ValidTs ts) (hc : ValidP cs) : ∃ ns, AscN ns ∧ (∀ p, p ∈ ns ↔ (∃ x ∈ ts, En.path x = p) ∨ ∃ y ∈ cs, Ch.path y = p) ∧ mrgEC ts cs = ns.map fun p => (p, fnd En.path ts p, fnd Ch.path cs p) := by
  obtain ⟨ns, h1, h2⟩ := names_of (ts.map En.path ++ cs.map Ch.path)
  have h3 : ∀ p, p ∈ ns ↔ (∃ x ∈ ts, En.path x = p) ∨ ∃ y ∈ cs, Ch.path y = p := fun p => by
    rw [h2, List.mem_append, List.mem_map, List.mem_map]
  exact ⟨ns, h1, h3, mrg_eq En.path Ch.path (ts.length + cs.length) ts cs ns (Nat.le_refl _) (valid_asc ht) (vp_asc hc) h1 h3⟩
theorem outs_app {ts : List En} {cs : List Ch} (ht : ValidTs ts) (hc : ValidP cs) : AppRel ts cs (outsA (mrgEC ts cs)) := by
  obtain ⟨ns, h1, h2, h3⟩ := mrgEC_rows ht hc
  have h4 := app_rows zeroE h1 h2 (valid_asc ht) (vp_asc hc)
  unfold outsA
  rw [h3, List.flatMap_map]
  exact h4
/-- The file is another one than the change says. -/
def badA (e : Option En) : Option Ch → Bool
  | some c => !sameF (fileE (e.getD zeroE)) c.old
  | none => false
theorem bad_iff {ts : List En} {cs : List Ch} (ht : ValidTs ts) (hc : ValidP cs) : (∃ x ∈ mrgEC ts cs, badA x.2.1 x.2.2 = true) ↔ ∃ c ∈ cs, sameF (atL ts c.path) c.old = false := by
  obtain ⟨ns, h1, h2, h3⟩ := mrgEC_rows ht hc
  rw [h3]
  constructor
  · rintro ⟨x, hx, hb⟩
    obtain ⟨p, hp, rfl⟩ := List.mem_map.1 hx
    cases hf : fnd Ch.path cs p with
    | none => simp only [hf] at hb; cases hb
    | some c =>
      obtain ⟨hcm, rfl⟩ := fnd_some hf
      simp only [hf, badA] at hb
      rw [fileE_at ht] at hb
      exact ⟨c, hcm, by simpa using hb⟩
  · rintro ⟨c, hcm, hs⟩
    refine ⟨_, List.mem_map.2 ⟨c.path, (h2 _).2 (.inr ⟨c, hcm, rfl⟩), rfl⟩, ?_⟩
    have hf : fnd Ch.path cs c.path = some c := by
      cases h : fnd Ch.path cs c.path with
      | none =>
        unfold fnd at h
        rw [List.find?_eq_none] at h
        exact absurd (eqb_iff.2 rfl) (h c hcm)
      | some d =>
        obtain ⟨hd1, hd2⟩ := fnd_some h
        have hA := vp_asc hc
        obtain ⟨i, hi, rfl⟩ := List.getElem_of_mem hd1
        obtain ⟨j, hj, rfl⟩ := List.getElem_of_mem hcm
        rcases Nat.lt_trichotomy i j with h' | h' | h'
        · exact absurd hd2 (less_ne (List.pairwise_iff_getElem.1 hA i j hi hj h'))
        · subst h'; rfl
        · exact absurd hd2.symm (less_ne (List.pairwise_iff_getElem.1 hA j i hj hi h'))
    simp only [hf, badA]
    rw [fileE_at ht, hs]
    rfl
/-- Which of the two lists have a path. -/
theorem mrgEC_cases {ts : List En} {cs : List Ch} (ht : ValidTs ts) (hc : ValidP cs) {x : PEC} (hx : x ∈ mrgEC ts cs) :
    (∃ d ∈ cs, x = (d.path, none, some d) ∧ ∀ e ∈ ts, e.path ≠ d.path) ∨ (∃ e ∈ ts, x = (e.path, some e, none)) ∨ ∃ e ∈ ts, ∃ d ∈ cs, d.path = e.path ∧ x = (e.path, some e, some d) := by
  obtain ⟨ns, h1, h2, h3⟩ := mrgEC_rows ht hc
  rw [h3] at hx
  obtain ⟨n, hn, rfl⟩ := List.mem_map.1 hx
  cases h1 : fnd En.path ts n with
  | none =>
    have hno : ∀ e ∈ ts, e.path ≠ n := fun e he e' => by
      unfold fnd at h1
      rw [List.find?_eq_none] at h1
      exact h1 e he (eqb_iff.2 e')
    cases h4 : fnd Ch.path cs n with
    | none =>
      exfalso
      rcases (h2 n).1 hn with ⟨z, hz, hzn⟩ | ⟨z, hz, hzn⟩
      · exact hno z hz hzn
      · unfold fnd at h4
        rw [List.find?_eq_none] at h4
        exact h4 z hz (eqb_iff.2 hzn)
    | some d =>
      obtain ⟨h5, rfl⟩ := fnd_some h4
      exact .inl ⟨d, h5, rfl, hno⟩
  | some e =>
    obtain ⟨h5, rfl⟩ := fnd_some h1
    cases h4 : fnd Ch.path cs e.path with
    | none => exact .inr (.inl ⟨e, h5, rfl⟩)
    | some d =>
      obtain ⟨h6, h7⟩ := fnd_some h4
      exact .inr (.inr ⟨e, h5, d, h6, h7, rfl⟩)
end Go.Proofs.Ytidkcdppdkfplaa

namespace Go.Proofs.Ytidkcdppdkfplaa
open Go.RowKit

theorem getD_put {L : Array Bool} {m : Nat} (hL : L.getD m true = false) : (L.setIfInBounds m true).getD m false = true := by
  have h1 := getD_false hL
  have h2 : m < L.size := by simpa using (List.getElem?_eq_some_iff.1 h1).1
  rw [Array.getD_eq_getD_getElem?, Array.getElem?_setIfInBounds_self_of_lt h2]
  rfl

/-- A region whose own operations only read. -/
structure QV (T0 : Array Value) (ds : List Nat) (tab : Nat → Option Value) (W : World) (L : Array Bool) (a : Act) (w : World) : Prop where
  sl : Sl2 T0 ds tab L a
  wd : Below W.heap.size W w
theorem QV.step {T0 : Array Value} {ds : List Nat} {tab : Nat → Option Value} {W : World} {L : Array Bool} {a : Act} {w w' : World} (h : QV T0 ds tab W L a w) (nd : ds.Nodup) {i : Nat} {v : Value} (hi : i < ds.length) (hd : ds[i] < T0.size) (ht : tab i = some v) (hb : Below w.heap.size w w') : QV T0 ds tab W (L.setIfInBounds i true) (a.put (some ds[i]) v) w' :=
  ⟨h.sl.put nd hi hd (fun u hu => by rw [ht] at hu; cases hu; rfl), h.wd.trans (hb.mono h.wd.size)⟩

/-- A region whose last operation (m) alone writes. -/
structure RX (T0 : Array Value) (ds : List Nat) (tab : Nat → Option Value) (W : World) (m : Nat) (E : World → Prop) (L : Array Bool) (a : Act) (w : World) : Prop where
  sl : Sl2 T0 ds tab L a
  wd : L.getD m false = false → Below W.heap.size W w
  fin : L.getD m false = true → E w
theorem RX.step {T0 : Array Value} {ds : List Nat} {tab : Nat → Option Value} {W : World} {m : Nat} {E : World → Prop} {L : Array Bool} {a : Act} {w w' : World} (h : RX T0 ds tab W m E L a w) (nd : ds.Nodup) {i : Nat} {v : Value} (hi : i < ds.length) (hd : ds[i] < T0.size) (hm : i ≠ m) (h0 : L.getD m false = false) (ht : tab i = some v) (hb : Below w.heap.size w w') : RX T0 ds tab W m E (L.setIfInBounds i true) (a.put (some ds[i]) v) w' := by
  have g : (L.setIfInBounds i true).getD m false = false := by rw [getD_set_ne false hm]; exact h0
  exact ⟨h.sl.put nd hi hd (fun u hu => by rw [ht] at hu; cases hu; rfl), fun _ => (h.wd h0).trans (hb.mono (h.wd h0).size), fun h1 => by rw [g] at h1; cases h1⟩
theorem RX.last {T0 : Array Value} {ds : List Nat} {tab : Nat → Option Value} {W : World} {m : Nat} {E : World → Prop} {L : Array Bool} {a : Act} {w w' : World} (h : RX T0 ds tab W m E L a w) (ht : tab m = none) (hL : L.getD m true = false) (hE : E w') : RX T0 ds tab W m E (L.setIfInBounds m true) a w' := by
  have g := getD_put hL
  exact ⟨h.sl.skip ht, (fun h1 => by rw [g] at h1; cases h1), fun _ => hE⟩

/-- The region that makes the round's change, the one that holds the files against each other. -/
def sTab (B : Nat) (e : En) : Nat → Option Value
  | 0 => some (.pointer (some ⟨B, 0, none⟩))
  | 1 => some (.string e.path)
  | 2 => some (.agg #[.string e.path, .string e.text, .bool e.runs])
  | 3 => some (.agg #[.bool (fileE e).there, .string (fileE e).text, .bool (fileE e).runs])
  | 4 => some (.agg #[.string e.path, .bool (fileE e).there, .string (fileE e).text, .bool (fileE e).runs, .bool (fileE e).there, .string (fileE e).text, .bool (fileE e).runs])
  | _ => none
def sDs : List Nat := [28, 29, 30, 31, 32, 1000]
theorem sNd : sDs.Nodup := by decide
def fTab (B : Nat) (e : En) (f : Fl) (nb : Bool) : Nat → Option Value
  | 0 => some (.agg #[.string e.path, .string e.text, .bool e.runs])
  | 1 => some (.agg #[.bool (fileE e).there, .string (fileE e).text, .bool (fileE e).runs])
  | 2 => some (.pointer (some ⟨B + 1, 1, none⟩))
  | 3 => some (.agg #[.bool f.there, .string f.text, .bool f.runs])
  | 4 => some (.bool nb)
  | _ => none
def fDs : List Nat := [33, 34, 35, 36, 37]
theorem fNd : fDs.Nodup := by decide

/-- The region that puts an entry behind. -/
def nTab (ob B : Nat) (v : Value) (p t : ByteArray) (r : Bool) : Nat → Option Value
  | 0 => some (.pointer (some ⟨ob, 0, none⟩))
  | 1 => some v
  | 2 => some (.pointer (some ⟨B + 1, 4, none⟩))
  | 3 => some (.agg #[.bool true, .string t, .bool r])
  | 4 => some (.pointer (some ⟨B + 1, 0, none⟩))
  | 5 => some (.string p)
  | 6 => some (.agg #[.string p, .string t, .bool r])
  | 9 => some (.pointer (some ⟨ob, 0, none⟩))
  | _ => none
def nDs : List Nat := [42, 43, 44, 45, 46, 47, 48, 49, 50, 51, 1000]
theorem nNd : nDs.Nodup := by decide
structure NV (T0 : Array Value) (ob B : Nat) (Wz X : World) (v : Value) (p t : ByteArray) (r : Bool) (us : List En) (L : Array Bool) (a : Act) (w : World) : Prop where
  sl : Sl2 T0 nDs (nTab ob B v p t r) L a
  w0 : L.getD 7 false = false → Below X.heap.size X w
  w1 : L.getD 7 false = true → L.getD 8 false = false → ∃ y : World, Below X.heap.size X y ∧ w = y.alloc (.cells #[.string p, .string t, .bool r] 62) ∧ a.eval (.tmp 49) = .slice (some ⟨y.heap.size, 0, none⟩) 1 1
  w2 : L.getD 8 false = true → L.getD 10 false = false → ∃ (W1 : World) (g2 cap : Nat), a.eval (.tmp 50) = .slice (some ⟨g2, 0, none⟩) (us.length + 1) cap ∧ Below X.heap.size X W1 ∧ w.ownsRow Wz.heap.size 62 3 (.slice (some ⟨g2, 0, none⟩) (us.length + 1) cap) (us.length + 1) (ecells us ++ ecell ⟨p, t, r⟩) ∧ W1.grownBy w v.ownBlock
  w3 : L.getD 10 false = true → ∃ v', OutSt ob Wz v' (us ++ [⟨p, t, r⟩]) w
theorem NV.below {T0 : Array Value} {ob B : Nat} {Wz X : World} {v : Value} {p t : ByteArray} {r : Bool} {us : List En} {L : Array Bool} {a : Act} {w : World} (h : NV T0 ob B Wz X v p t r us L a w) (h8 : L.getD 8 false = false) : Below X.heap.size X w := by
  cases h7 : L.getD 7 false with
  | false => exact h.w0 h7
  | true =>
    obtain ⟨y, hy, rfl, _⟩ := h.w1 h7 h8
    exact hy.alloc hy.size _
theorem NV.step {T0 : Array Value} {ob B : Nat} {Wz X : World} {v : Value} {p t : ByteArray} {r : Bool} {us : List En} {L : Array Bool} {a : Act} {w w' : World} (h : NV T0 ob B Wz X v p t r us L a w) {i : Nat} {u : Value} (hT : T0.size = 57) (hi : i < 10) (h7 : i ≠ 7) (h8 : i ≠ 8) (ht : nTab ob B v p t r i = some u)
    (hw : w' = w ∨ (Below w.heap.size w w' ∧ L.getD 7 false = false ∧ L.getD 8 false = false ∧ L.getD 10 false = false)) :
    NV T0 ob B Wz X v p t r us (L.setIfInBounds i true) (a.put (some (42 + i)) u) w' := by
  have hlen : i < nDs.length := by show i < 11; omega
  have hds : nDs[i] = 42 + i := by
    match i, hi with
    | 0, _ | 1, _ | 2, _ | 3, _ | 4, _ | 5, _ | 6, _ | 7, _ | 8, _ | 9, _ => rfl
  have hsl := h.sl.put nNd hlen (by rw [hds, hT]; omega) (v := u) (fun u' hu => by rw [ht] at hu; cases hu; rfl)
  rw [hds] at hsl
  have ev : ∀ k, k ≠ 42 + i → (a.put (some (42 + i)) u).eval (.tmp k) = a.eval (.tmp k) := fun k hk => Act.eval_put (fun d hd' => by cases hd'; intro e'; injection e' with e'; exact hk e')
  refine ⟨hsl, fun h1 => ?_, fun h1 h2 => ?_, fun h1 h2 => ?_, fun h1 => ?_⟩
  · rw [getD_set_ne false h7] at h1
    rcases hw with rfl | ⟨hb, _⟩
    · exact h.w0 h1
    · exact (h.w0 h1).trans (hb.mono (h.w0 h1).size)
  · rw [getD_set_ne false h7] at h1; rw [getD_set_ne false h8] at h2
    rcases hw with rfl | ⟨_, h3, _⟩
    · rw [ev 49 (by omega)]; exact h.w1 h1 h2
    · rw [h3] at h1; cases h1
  · rw [getD_set_ne false h8] at h1; rw [getD_set_ne false (by omega)] at h2
    rcases hw with rfl | ⟨_, _, h3, _⟩
    · rw [ev 50 (by omega)]; exact h.w2 h1 h2
    · rw [h3] at h1; cases h1
  · rw [getD_set_ne false (by omega)] at h1
    rcases hw with rfl | ⟨_, _, _, h3⟩
    · exact h.w3 h1
    · rw [h3] at h1; cases h1
theorem NV.build {T0 : Array Value} {ob B : Nat} {Wz X : World} {v : Value} {p t : ByteArray} {r : Bool} {us : List En} {L : Array Bool} {a : Act} {w : World} (h : NV T0 ob B Wz X v p t r us L a w) (hT : T0.size = 57) (h8 : L.getD 8 false = false) (h10 : L.getD 10 false = false) (hL : L.getD 7 true = false) :
    NV T0 ob B Wz X v p t r us (L.setIfInBounds 7 true) (a.put (some 49) (.slice (some ⟨w.heap.size, 0, none⟩) 1 1)) (w.alloc (.cells #[.string p, .string t, .bool r] 62)) := by
  have g := getD_put hL
  refine ⟨h.sl.put (i := 7) nNd (by decide) (show 49 < _ by rw [hT]; omega) (fun u hu => by cases hu), fun h1 => ?_, fun _ _ => ⟨w, h.w0 (getD_ft hL), rfl, ?_⟩, fun h1 _ => ?_, fun h1 => ?_⟩
  · rw [g] at h1; cases h1
  · show ((a.tmps.setIfInBounds 49 _).getD 49 undef) = _
    rw [Array.getD_eq_getD_getElem?, Array.getElem?_setIfInBounds_self_of_lt (by rw [h.sl.sz, hT]; omega)]
    rfl
  · rw [getD_set_ne false (by omega), h8] at h1; cases h1
  · rw [getD_set_ne false (by omega), h10] at h1; cases h1
theorem NV.app {T0 : Array Value} {ob B : Nat} {Wz X W1 : World} {v : Value} {p t : ByteArray} {r : Bool} {us : List En} {L : Array Bool} {a : Act} {w w' : World} (h : NV T0 ob B Wz X v p t r us L a w) (hT : T0.size = 57) (h7 : L.getD 7 false = true) (h10 : L.getD 10 false = false) (hL : L.getD 8 true = false) {g2 cap : Nat} (hX : Below X.heap.size X W1)
    (e2 : w'.ownsRow Wz.heap.size 62 3 (.slice (some ⟨g2, 0, none⟩) (us.length + 1) cap) (us.length + 1) (ecells us ++ ecell ⟨p, t, r⟩)) (e3 : W1.grownBy w' v.ownBlock) :
    NV T0 ob B Wz X v p t r us (L.setIfInBounds 8 true) (a.put (some 50) (.slice (some ⟨g2, 0, none⟩) (us.length + 1) cap)) w' := by
  have g := getD_put hL
  refine ⟨h.sl.put (i := 8) nNd (by decide) (show 50 < _ by rw [hT]; omega) (fun u hu => by cases hu), fun h1 => ?_, fun _ h2 => ?_, fun _ _ => ⟨W1, g2, cap, ?_, hX, e2, e3⟩, fun h1 => ?_⟩
  · rw [getD_set_ne false (by omega), h7] at h1; cases h1
  · rw [g] at h2; cases h2
  · show ((a.tmps.setIfInBounds 50 _).getD 50 undef) = _
    rw [Array.getD_eq_getD_getElem?, Array.getElem?_setIfInBounds_self_of_lt (by rw [h.sl.sz, hT]; omega)]
    rfl
  · rw [getD_set_ne false (by omega), h10] at h1; cases h1
theorem NV.last {T0 : Array Value} {ob B : Nat} {Wz X : World} {v : Value} {p t : ByteArray} {r : Bool} {us : List En} {L : Array Bool} {a : Act} {w w' : World} (h : NV T0 ob B Wz X v p t r us L a w) (h7 : L.getD 7 false = true) (h8 : L.getD 8 false = true) (hL : L.getD 10 true = false) (hE : ∃ v', OutSt ob Wz v' (us ++ [⟨p, t, r⟩]) w') :
    NV T0 ob B Wz X v p t r us (L.setIfInBounds 10 true) a w' := by
  have g := getD_put hL
  refine ⟨h.sl.skip rfl, fun h1 => ?_, fun _ h2 => ?_, fun _ h2 => ?_, fun _ => hE⟩
  · rw [getD_set_ne false (by omega), h7] at h1; cases h1
  · rw [getD_set_ne false (by omega), h8] at h2; cases h2
  · rw [g] at h2; cases h2
/-- An append, at a step of a region (RegV) in a round. -/
theorem wpIn_appendR {l n : Nat} {P : Program} {o : Oper} {a : Act} {w w' : World} {K : Act → World → Prop} {Q : Exit → Act → World → Prop} (s x : Operand) (t : TypeId) (ho : o.op = .call { callee := .builtin .append, args := #[s, x], argTypes := #[t, t] }) {v u v' : Value} (hs : a.eval s = v) (hx : a.eval x = u)
    (hr : (Builtin.append_ #[t, t] o.type #[v, u]).run P w = .ok v' w') (hK : K (a.put o.dst v') w') : o.wpIn (Fence.wide.inRound l) n P a w K Q := by
  refine ⟨fun f _ => trivial, ?_⟩
  show Oper.uponIn (Fence.wide.inRound l) n P o a K Q ((Oper.semAt (some l) a.eval o).run P w)
  rw [Oper.semAt_some l a.eval o (fun c e => by rw [ho] at e; cases e)]
  unfold execOp
  simp only [ho, resolve, invoke, builtin, Sem.run_bind, Sem.run_pure, Result.andThen_ok, List.map_toArray, List.map_cons, List.map_nil, hs, hx, hr]
  exact hK

theorem EBox.grown {b : Nat} {e : En} {W W' : World} {row : Option Nat} (h : EBox b e W) (hg : W.grownBy W' row) (hr : row ≠ some b) : EBox b e W' := by
  have hb := hg.block b (World.block_lt_of_cell? W ⟨b, 0, none⟩ h.c0) (fun e => hr e.symm)
  exact ⟨(World.cell?_of_block hb).trans h.c0, (World.cell?_of_block hb).trans h.c1, (World.cell?_of_block hb).trans h.c2⟩

/-- The change that a round goes by. -/
def chA (e : Option En) (c : Option Ch) : Ch := c.getD ⟨(e.getD zeroE).path, fileE (e.getD zeroE), fileE (e.getD zeroE)⟩
theorem sameF_self (f : Fl) : sameF f f = true := by simp [sameF]
theorem round_facts {ts : List En} {cs : List Ch} (ht : ValidTs ts) (hc : ValidP cs) {x : PEC} (hx : x ∈ mrgEC ts cs) :
    badA x.2.1 x.2.2 = !sameF (fileE (x.2.1.getD zeroE)) (chA x.2.1 x.2.2).old ∧
    outA zeroE x.2.1 x.2.2 = (if (chA x.2.1 x.2.2).new.there = true then [⟨(chA x.2.1 x.2.2).path, (chA x.2.1 x.2.2).new.text, (chA x.2.1 x.2.2).new.runs⟩] else []) ∧
    (chA x.2.1 x.2.2).path.size ≤ 1048576 ∧ (chA x.2.1 x.2.2).new.text.size ≤ 1048576 ∧
    (x.2.2 = none ∨ ∃ d, x.2.2 = some d ∧ (d.path.toList == ([] : List UInt8)) = false) := by
  have hsz : ∀ {s : ByteArray}, pathOk pathB s = true → s.size ≤ 1048576 := fun h => by have := pathOk_size h; omega
  have hd : ∀ d ∈ cs, (d.path.toList == ([] : List UInt8)) = false ∧ d.path.size ≤ 1048576 ∧ d.new.text.size ≤ 1048576 := fun d h => by
    obtain ⟨i, hi, rfl⟩ := List.getElem_of_mem h
    obtain ⟨_, h1, _⟩ := hc.2 i hi
    simp only [chOk, flOk, Bool.and_eq_true, decide_eq_true_eq, Bool.not_eq_true'] at h1
    obtain ⟨⟨⟨h1, h2, _⟩, h3, _⟩, h4⟩ := h1
    exact ⟨path_ne0 h1, hsz h1, by omega⟩
  rcases mrgEC_cases ht hc hx with ⟨d, h1, rfl, _⟩ | ⟨e, h1, rfl⟩ | ⟨e, h1, d, h2, h3, rfl⟩
  · exact ⟨rfl, outA_some _ _ _, (hd d h1).2.1, (hd d h1).2.2, .inr ⟨d, rfl, (hd d h1).1⟩⟩
  · have h2 := valid_en ht h1
    simp only [enOk, Bool.and_eq_true, decide_eq_true_eq] at h2
    have h3 := fileE_some (valid_path ht h1)
    refine ⟨?_, ?_, hsz h2.1, ?_, .inl rfl⟩
    · show false = !sameF (fileE e) (fileE e)
      rw [sameF_self]; rfl
    · rw [outA_none]
      show [e] = if (fileE e).there = true then [⟨e.path, (fileE e).text, (fileE e).runs⟩] else []
      rw [h3]; rfl
    · show (fileE e).text.size ≤ _
      rw [h3]; show e.text.size ≤ _; omega
  · exact ⟨rfl, outA_some _ _ _, (hd d h2).2.1, (hd d h2).2.2, .inr ⟨d, rfl, (hd d h2).1⟩⟩
end Go.Proofs.Ytidkcdppdkfplaa
