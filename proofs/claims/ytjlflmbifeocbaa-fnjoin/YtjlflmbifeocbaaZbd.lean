/-
  AppB, AppR, SetS, LyS, ApR, CopyT, SpecPath, PatS: laid as one text.
-/
import Derived.Test.YtjlflmbifeocbaaZbc
import Derived.Test.YtjlflmbifeocbaaZba
import Derived.Test.YtjlflmbifeocbaaZbb
import Derived.Test.YtjlflmbifeocbaaEntOf
import Derived.Deep.AppendLies
import Derived.Test.YtjlflmbifeocbaaSetP
import Derived.Test.YtjlflmbifeocbaaOutL
import Derived.Deep.QuietTactic
import Derived.BigQuiet
import Derived.Deep.RegionLaw
import Derived.Test.YtjlflmbifeocbaaEntL
import Derived.Test.YtjlflmbifeocbaaLay
import Derived.Laws.AppendOwnNone
import Derived.Test.YtjlflmbifeocbaaSpecParts
import Derived.Test.YtjlflmbifeocbaaPartOk
import Derived.Test.YtjlflmbifeocbaaLaterQ
import Derived.Deep.RegionWith
namespace Go.Proofs.Ytjlflmbifeocbaa
open Go.RowKit Go.Shelf

theorem sideEC_iter (Ba Bb : Nat) (a b : Option Addr) (ca cb : Nat) (ts : List En) (us : List Ch) (hca : ts.length ≤ ca) (hcb : us.length ≤ cb) (hnt : ts.length ≤ 1048576) (hnu : us.length ≤ 1048576) :
    Iter 61 #[.pointer (some ⟨Ba, 0, none⟩), .pointer (some ⟨Bb, 0, none⟩)] yEC (mrgEC ts us) (sideMemEC Ba Bb a b ca cb ts us) :=
  fun n l J Jx W hM hJ hY h0 => sideEC1_in n l Ba Bb a b ca cb ts us hca hcb hnt hnu J Jx W hM hJ hY h0

theorem OutSt.own_lt {h : Nat} {W0 W : World} {v : Value} {us : List En} (s : OutSt h W0 v us W) {k : Nat} (hk : v.ownBlock = some k) : k < W.heap.size := by
  rcases s.row.2 with ⟨e, _⟩ | ⟨g, cap, cur, e, _, hg, _⟩
  · rw [e] at hk; simp [Value.ownBlock] at hk
  · rw [e] at hk; simp [Value.ownBlock] at hk; subst hk; exact (Array.getElem?_eq_some_iff.1 hg).1
theorem OutSt.other {h B : Nat} {W0 W W' : World} {v : Value} {us : List En} (s : OutSt h W0 v us W) (hg : W.grownBy W' (some B)) (hB : W0.heap.size ≤ B) (hv : v.ownBlock ≠ some B) : OutSt h W0 v us W' := by
  have hl := s.lt
  have hh := hg.block h s.size (fun e => by cases e; omega)
  refine ⟨(World.cell?_of_block hh).trans s.cell, frozen_of hh s.fz, s.row.kept hg (Or.inr hv), ⟨hg.os.trans s.grown.os, hg.tape.trans s.grown.tape, hg.output.trans s.grown.output, Nat.le_trans s.grown.size hg.size, fun k hk hne => ?_⟩, hl⟩
  exact (hg.block k (Nat.lt_of_lt_of_le hk s.grown.size) (fun e => by cases e; omega)).trans (s.grown.block k hk hne)
theorem OutSt.putJ {h l : Nat} {W0 W : World} {v : Value} {us : List En} (s : OutSt h W0 v us W) (o : Obj) (hl : l < W0.heap.size) (hne : l ≠ h) : OutSt h (W0.putObj l o) v us (W.putObj l o) := by
  have hb : ∀ (X : World) (k : Nat), k ≠ l → (X.putObj l o).heap[k]? = X.heap[k]? := fun X k hk => World.putObj_heap_other hk
  have hh := hb W h (fun e => hne e.symm)
  have hg : W.grownBy (W.putObj l o) (some l) := ⟨rfl, rfl, rfl, by simp, fun k _ hk => hb W k (fun e => hk (by rw [e]))⟩
  have hlW := Nat.lt_of_lt_of_le hl s.grown.size
  refine ⟨(World.cell?_of_block hh).trans s.cell, frozen_of hh s.fz, ?_, ⟨s.grown.os, s.grown.tape, s.grown.output, by simpa using s.grown.size, fun k hk hkh => ?_⟩, by simpa using s.lt⟩
  · have h1 := s.row.kept hg (Or.inr (fun e => by have := owns_row_ge s.row e; omega))
    simpa using h1
  · have hk' : k < W0.heap.size := by simpa using hk
    by_cases e : k = l
    · subst e
      rw [World.putObj_heap_same hlW, World.putObj_heap_same hl]
    · rw [hb W k e, hb W0 k e]
      exact s.grown.block k hk' hkh


def outsA (pre : List PEC) : List En := pre.flatMap fun x => outA zeroE x.2.1 x.2.2
theorem outsA_snoc (pre : List PEC) (x : PEC) : outsA (pre ++ [x]) = outsA pre ++ outA zeroE x.2.1 x.2.2 := by simp [outsA]
theorem outA_len (z : En) (e : Option En) (c : Option Ch) : (outA z e c).length ≤ 1 := by
  cases c with
  | none => rw [outA_none]; simp
  | some c => rw [outA_some]; split <;> simp
theorem outsA_len (pre : List PEC) : (outsA pre).length ≤ pre.length := by
  induction pre with
  | nil => simp [outsA]
  | cons x pre ih =>
    have h1 : outsA (x :: pre) = outA zeroE x.2.1 x.2.2 ++ outsA pre := by simp [outsA]
    have h2 := outA_len zeroE x.2.1 x.2.2
    rw [h1, List.length_append, List.length_cons]
    omega

theorem mrg_lenA {α β : Type} (pa : α → ByteArray) (pb : β → ByteArray) : ∀ (n : Nat) (ts : List α) (us : List β), (mrg pa pb n ts us).length ≤ n
  | 0, _, _ => by simp [mrg]
  | n + 1, [], [] => by simp [mrg]
  | n + 1, [], y :: us => by have := mrg_lenA pa pb n [] us; simp only [mrg, List.length_cons]; omega
  | n + 1, x :: ts, [] => by have := mrg_lenA pa pb n ts []; simp only [mrg, List.length_cons]; omega
  | n + 1, x :: ts, y :: us => by
    have h1 := mrg_lenA pa pb n ts (y :: us)
    have h2 := mrg_lenA pa pb n (x :: ts) us
    have h3 := mrg_lenA pa pb n ts us
    simp only [mrg]
    split
    · simp only [List.length_cons]; omega
    · split
      · simp only [List.length_cons]; omega
      · simp only [List.length_cons]; omega
theorem names_of : ∀ l : List ByteArray, ∃ ns, AscN ns ∧ ∀ p, p ∈ ns ↔ p ∈ l
  | [] => ⟨[], List.Pairwise.nil, fun p => Iff.rfl⟩
  | q :: l => by
    obtain ⟨ns, h1, h2⟩ := names_of l
    have h3 := nameL_asc (s := q) h1
    refine ⟨nameL ns q, h3.1, fun p => ?_⟩
    rw [h3.2, h2, List.mem_cons]
    exact ⟨fun h => h.elim .inr .inl, fun h => h.elim .inr .inl⟩
theorem vp_asc {cs : List Ch} (h : ValidP cs) : AscK Ch.path cs := by
  have key : ∀ i, i < cs.length → ∀ j, j < i → ∀ (hi : i < cs.length) (hj : j < cs.length), Op.bytesLess cs[j].path.toList cs[i].path.toList = true := by
    intro i
    induction i with
    | zero => intro _ j hj; omega
    | succ i ih =>
      intro hi j hj hi' hj'
      obtain ⟨_, _, h1⟩ := h.2 (i + 1) hi
      have h2 := h1 i rfl (by omega)
      by_cases e : j = i
      · subst e; exact h2
      · exact less_trans (ih (by omega) j (by omega) (by omega) hj') h2
  exact List.pairwise_iff_getElem.2 fun i j hi hj hij => key j hj i hij hj hi
theorem mrgEC_rows {ts : List En} {cs : List Ch} (ht : ValidTs ts) (hc : ValidP cs) : ∃ ns, AscN ns ∧ (∀ p, p ∈ ns ↔ (∃ x ∈ ts, En.path x = p) ∨ ∃ y ∈ cs, Ch.path y = p) ∧ mrgEC ts cs = ns.map fun p => (p, fnd En.path ts p, fnd Ch.path cs p) := by
  obtain ⟨ns, h1, h2⟩ := names_of (ts.map En.path ++ cs.map Ch.path)
  have h3 : ∀ p, p ∈ ns ↔ (∃ x ∈ ts, En.path x = p) ∨ ∃ y ∈ cs, Ch.path y = p := fun p => by
    rw [h2, List.mem_append, List.mem_map, List.mem_map]
  exact ⟨ns, h1, h3, mrg_eq En.path Ch.path (ts.length + cs.length) ts cs ns (Nat.le_refl _) (valid_asc ht) (vp_asc hc) h1 h3⟩
theorem outs_app {ts : List En} {cs : List Ch} (ht : ValidTs ts) (hc : ValidP cs) : AppRel ts cs (outsA (mrgEC ts cs)) := by
  obtain ⟨ns, h1, h2, h3⟩ := mrgEC_rows ht hc
  have h4 := app_rows zeroE h1 h2 (valid_asc ht) (vp_asc hc)
  unfold outsA
  rw [h3, List.flatMap_map]
  exact h4
/-- The file is another one than the change says. -/
def badA (e : Option En) : Option Ch → Bool
  | some c => !sameF (fileE (e.getD zeroE)) c.old
  | none => false
theorem bad_iff {ts : List En} {cs : List Ch} (ht : ValidTs ts) (hc : ValidP cs) : (∃ x ∈ mrgEC ts cs, badA x.2.1 x.2.2 = true) ↔ ∃ c ∈ cs, sameF (atL ts c.path) c.old = false := by
  obtain ⟨ns, h1, h2, h3⟩ := mrgEC_rows ht hc
  rw [h3]
  constructor
  · rintro ⟨x, hx, hb⟩
    obtain ⟨p, hp, rfl⟩ := List.mem_map.1 hx
    cases hf : fnd Ch.path cs p with
    | none => simp only [hf] at hb; cases hb
    | some c =>
      obtain ⟨hcm, rfl⟩ := fnd_some hf
      simp only [hf, badA] at hb
      rw [fileE_at ht] at hb
      exact ⟨c, hcm, by simpa using hb⟩
  · rintro ⟨c, hcm, hs⟩
    refine ⟨_, List.mem_map.2 ⟨c.path, (h2 _).2 (.inr ⟨c, hcm, rfl⟩), rfl⟩, ?_⟩
    have hf : fnd Ch.path cs c.path = some c := by
      cases h : fnd Ch.path cs c.path with
      | none =>
        unfold fnd at h
        rw [List.find?_eq_none] at h
        exact absurd (eqb_iff.2 rfl) (h c hcm)
      | some d =>
        obtain ⟨hd1, hd2⟩ := fnd_some h
        have hA := vp_asc hc
        obtain ⟨i, hi, rfl⟩ := List.getElem_of_mem hd1
        obtain ⟨j, hj, rfl⟩ := List.getElem_of_mem hcm
        rcases Nat.lt_trichotomy i j with h' | h' | h'
        · exact absurd hd2 (less_ne (List.pairwise_iff_getElem.1 hA i j hi hj h'))
        · subst h'; rfl
        · exact absurd hd2.symm (less_ne (List.pairwise_iff_getElem.1 hA j i hj hi h'))
    simp only [hf, badA]
    rw [fileE_at ht, hs]
    rfl
/-- Which of the two lists have a path. -/
theorem mrgEC_cases {ts : List En} {cs : List Ch} (ht : ValidTs ts) (hc : ValidP cs) {x : PEC} (hx : x ∈ mrgEC ts cs) :
    (∃ d ∈ cs, x = (d.path, none, some d) ∧ ∀ e ∈ ts, e.path ≠ d.path) ∨ (∃ e ∈ ts, x = (e.path, some e, none)) ∨ ∃ e ∈ ts, ∃ d ∈ cs, d.path = e.path ∧ x = (e.path, some e, some d) := by
  obtain ⟨ns, h1, h2, h3⟩ := mrgEC_rows ht hc
  rw [h3] at hx
  obtain ⟨n, hn, rfl⟩ := List.mem_map.1 hx
  cases h1 : fnd En.path ts n with
  | none =>
    have hno : ∀ e ∈ ts, e.path ≠ n := fun e he e' => by
      unfold fnd at h1
      rw [List.find?_eq_none] at h1
      exact h1 e he (eqb_iff.2 e')
    cases h4 : fnd Ch.path cs n with
    | none =>
      exfalso
      rcases (h2 n).1 hn with ⟨z, hz, hzn⟩ | ⟨z, hz, hzn⟩
      · exact hno z hz hzn
      · unfold fnd at h4
        rw [List.find?_eq_none] at h4
        exact h4 z hz (eqb_iff.2 hzn)
    | some d =>
      obtain ⟨h5, rfl⟩ := fnd_some h4
      exact .inl ⟨d, h5, rfl, hno⟩
  | some e =>
    obtain ⟨h5, rfl⟩ := fnd_some h1
    cases h4 : fnd Ch.path cs e.path with
    | none => exact .inr (.inl ⟨e, h5, rfl⟩)
    | some d =>
      obtain ⟨h6, h7⟩ := fnd_some h4
      exact .inr (.inr ⟨e, h5, d, h6, h7, rfl⟩)
end Go.Proofs.Ytjlflmbifeocbaa

namespace Go.Proofs.Ytjlflmbifeocbaa
open Go.RowKit

theorem getD_put {L : Array Bool} {m : Nat} (hL : L.getD m true = false) : (L.setIfInBounds m true).getD m false = true := by
  have h1 := getD_false hL
  have h2 : m < L.size := by simpa using (List.getElem?_eq_some_iff.1 h1).1
  rw [Array.getD_eq_getD_getElem?, Array.getElem?_setIfInBounds_self_of_lt h2]
  rfl

/-- A region whose own operations only read. -/
structure QV (T0 : Array Value) (ds : List Nat) (tab : Nat → Option Value) (W : World) (L : Array Bool) (a : Act) (w : World) : Prop where
  sl : Sl2 T0 ds tab L a
  wd : Below W.heap.size W w
theorem QV.step {T0 : Array Value} {ds : List Nat} {tab : Nat → Option Value} {W : World} {L : Array Bool} {a : Act} {w w' : World} (h : QV T0 ds tab W L a w) (nd : ds.Nodup) {i : Nat} {v : Value} (hi : i < ds.length) (hd : ds[i] < T0.size) (ht : tab i = some v) (hb : Below w.heap.size w w') : QV T0 ds tab W (L.setIfInBounds i true) (a.put (some ds[i]) v) w' :=
  ⟨h.sl.put nd hi hd (fun u hu => by rw [ht] at hu; cases hu; rfl), h.wd.trans (hb.mono h.wd.size)⟩

/-- A region whose last operation (m) alone writes. -/
structure RX (T0 : Array Value) (ds : List Nat) (tab : Nat → Option Value) (W : World) (m : Nat) (E : World → Prop) (L : Array Bool) (a : Act) (w : World) : Prop where
  sl : Sl2 T0 ds tab L a
  wd : L.getD m false = false → Below W.heap.size W w
  fin : L.getD m false = true → E w
theorem RX.step {T0 : Array Value} {ds : List Nat} {tab : Nat → Option Value} {W : World} {m : Nat} {E : World → Prop} {L : Array Bool} {a : Act} {w w' : World} (h : RX T0 ds tab W m E L a w) (nd : ds.Nodup) {i : Nat} {v : Value} (hi : i < ds.length) (hd : ds[i] < T0.size) (hm : i ≠ m) (h0 : L.getD m false = false) (ht : tab i = some v) (hb : Below w.heap.size w w') : RX T0 ds tab W m E (L.setIfInBounds i true) (a.put (some ds[i]) v) w' := by
  have g : (L.setIfInBounds i true).getD m false = false := by rw [getD_set_ne false hm]; exact h0
  exact ⟨h.sl.put nd hi hd (fun u hu => by rw [ht] at hu; cases hu; rfl), fun _ => (h.wd h0).trans (hb.mono (h.wd h0).size), fun h1 => by rw [g] at h1; cases h1⟩
theorem RX.last {T0 : Array Value} {ds : List Nat} {tab : Nat → Option Value} {W : World} {m : Nat} {E : World → Prop} {L : Array Bool} {a : Act} {w w' : World} (h : RX T0 ds tab W m E L a w) (ht : tab m = none) (hL : L.getD m true = false) (hE : E w') : RX T0 ds tab W m E (L.setIfInBounds m true) a w' := by
  have g := getD_put hL
  exact ⟨h.sl.skip ht, (fun h1 => by rw [g] at h1; cases h1), fun _ => hE⟩

/-- The region that makes the round's change, the one that holds the files against each other. -/
def sTab (B : Nat) (e : En) : Nat → Option Value
  | 0 => some (.pointer (some ⟨B, 0, none⟩))
  | 1 => some (.string e.path)
  | 2 => some (.agg #[.string e.path, .string e.text, .bool e.runs])
  | 3 => some (.agg #[.bool (fileE e).there, .string (fileE e).text, .bool (fileE e).runs])
  | 4 => some (.agg #[.string e.path, .bool (fileE e).there, .string (fileE e).text, .bool (fileE e).runs, .bool (fileE e).there, .string (fileE e).text, .bool (fileE e).runs])
  | _ => none
def sDs : List Nat := [28, 29, 30, 31, 32, 1000]
theorem sNd : sDs.Nodup := by decide
def fTab (B : Nat) (e : En) (f : Fl) (nb : Bool) : Nat → Option Value
  | 0 => some (.agg #[.string e.path, .string e.text, .bool e.runs])
  | 1 => some (.agg #[.bool (fileE e).there, .string (fileE e).text, .bool (fileE e).runs])
  | 2 => some (.pointer (some ⟨B + 1, 1, none⟩))
  | 3 => some (.agg #[.bool f.there, .string f.text, .bool f.runs])
  | 4 => some (.bool nb)
  | _ => none
def fDs : List Nat := [33, 34, 35, 36, 37]
theorem fNd : fDs.Nodup := by decide

/-- The region that puts an entry behind. -/
def nTab (ob B : Nat) (v : Value) (p t : ByteArray) (r : Bool) : Nat → Option Value
  | 0 => some (.pointer (some ⟨ob, 0, none⟩))
  | 1 => some v
  | 2 => some (.pointer (some ⟨B + 1, 4, none⟩))
  | 3 => some (.agg #[.bool true, .string t, .bool r])
  | 4 => some (.pointer (some ⟨B + 1, 0, none⟩))
  | 5 => some (.string p)
  | 6 => some (.agg #[.string p, .string t, .bool r])
  | 9 => some (.pointer (some ⟨ob, 0, none⟩))
  | _ => none
def nDs : List Nat := [42, 43, 44, 45, 46, 47, 48, 49, 50, 51, 1000]
theorem nNd : nDs.Nodup := by decide
structure NV (T0 : Array Value) (ob B : Nat) (Wz X : World) (v : Value) (p t : ByteArray) (r : Bool) (us : List En) (L : Array Bool) (a : Act) (w : World) : Prop where
  sl : Sl2 T0 nDs (nTab ob B v p t r) L a
  w0 : L.getD 7 false = false → Below X.heap.size X w
  w1 : L.getD 7 false = true → L.getD 8 false = false → ∃ y : World, Below X.heap.size X y ∧ w = y.alloc (.cells #[.string p, .string t, .bool r] 57) ∧ a.eval (.tmp 49) = .slice (some ⟨y.heap.size, 0, none⟩) 1 1
  w2 : L.getD 8 false = true → L.getD 10 false = false → ∃ (W1 : World) (g2 cap : Nat), a.eval (.tmp 50) = .slice (some ⟨g2, 0, none⟩) (us.length + 1) cap ∧ Below X.heap.size X W1 ∧ w.ownsRow Wz.heap.size 57 3 (.slice (some ⟨g2, 0, none⟩) (us.length + 1) cap) (us.length + 1) (ecells us ++ ecell ⟨p, t, r⟩) ∧ W1.grownBy w v.ownBlock
  w3 : L.getD 10 false = true → ∃ v', OutSt ob Wz v' (us ++ [⟨p, t, r⟩]) w
theorem NV.below {T0 : Array Value} {ob B : Nat} {Wz X : World} {v : Value} {p t : ByteArray} {r : Bool} {us : List En} {L : Array Bool} {a : Act} {w : World} (h : NV T0 ob B Wz X v p t r us L a w) (h8 : L.getD 8 false = false) : Below X.heap.size X w := by
  cases h7 : L.getD 7 false with
  | false => exact h.w0 h7
  | true =>
    obtain ⟨y, hy, rfl, _⟩ := h.w1 h7 h8
    exact hy.alloc hy.size _
theorem NV.step {T0 : Array Value} {ob B : Nat} {Wz X : World} {v : Value} {p t : ByteArray} {r : Bool} {us : List En} {L : Array Bool} {a : Act} {w w' : World} (h : NV T0 ob B Wz X v p t r us L a w) {i : Nat} {u : Value} (hT : T0.size = 57) (hi : i < 10) (h7 : i ≠ 7) (h8 : i ≠ 8) (ht : nTab ob B v p t r i = some u)
    (hw : w' = w ∨ (Below w.heap.size w w' ∧ L.getD 7 false = false ∧ L.getD 8 false = false ∧ L.getD 10 false = false)) :
    NV T0 ob B Wz X v p t r us (L.setIfInBounds i true) (a.put (some (42 + i)) u) w' := by
  have hlen : i < nDs.length := by show i < 11; omega
  have hds : nDs[i] = 42 + i := by
    match i, hi with
    | 0, _ | 1, _ | 2, _ | 3, _ | 4, _ | 5, _ | 6, _ | 7, _ | 8, _ | 9, _ => rfl
  have hsl := h.sl.put nNd hlen (by rw [hds, hT]; omega) (v := u) (fun u' hu => by rw [ht] at hu; cases hu; rfl)
  rw [hds] at hsl
  have ev : ∀ k, k ≠ 42 + i → (a.put (some (42 + i)) u).eval (.tmp k) = a.eval (.tmp k) := fun k hk => Act.eval_put (fun d hd' => by cases hd'; intro e'; injection e' with e'; exact hk e')
  refine ⟨hsl, fun h1 => ?_, fun h1 h2 => ?_, fun h1 h2 => ?_, fun h1 => ?_⟩
  · rw [getD_set_ne false h7] at h1
    rcases hw with rfl | ⟨hb, _⟩
    · exact h.w0 h1
    · exact (h.w0 h1).trans (hb.mono (h.w0 h1).size)
  · rw [getD_set_ne false h7] at h1; rw [getD_set_ne false h8] at h2
    rcases hw with rfl | ⟨_, h3, _⟩
    · rw [ev 49 (by omega)]; exact h.w1 h1 h2
    · rw [h3] at h1; cases h1
  · rw [getD_set_ne false h8] at h1; rw [getD_set_ne false (by omega)] at h2
    rcases hw with rfl | ⟨_, _, h3, _⟩
    · rw [ev 50 (by omega)]; exact h.w2 h1 h2
    · rw [h3] at h1; cases h1
  · rw [getD_set_ne false (by omega)] at h1
    rcases hw with rfl | ⟨_, _, _, h3⟩
    · exact h.w3 h1
    · rw [h3] at h1; cases h1
theorem NV.build {T0 : Array Value} {ob B : Nat} {Wz X : World} {v : Value} {p t : ByteArray} {r : Bool} {us : List En} {L : Array Bool} {a : Act} {w : World} (h : NV T0 ob B Wz X v p t r us L a w) (hT : T0.size = 57) (h8 : L.getD 8 false = false) (h10 : L.getD 10 false = false) (hL : L.getD 7 true = false) :
    NV T0 ob B Wz X v p t r us (L.setIfInBounds 7 true) (a.put (some 49) (.slice (some ⟨w.heap.size, 0, none⟩) 1 1)) (w.alloc (.cells #[.string p, .string t, .bool r] 57)) := by
  have g := getD_put hL
  refine ⟨h.sl.put (i := 7) nNd (by decide) (show 49 < _ by rw [hT]; omega) (fun u hu => by cases hu), fun h1 => ?_, fun _ _ => ⟨w, h.w0 (getD_ft hL), rfl, ?_⟩, fun h1 _ => ?_, fun h1 => ?_⟩
  · rw [g] at h1; cases h1
  · show ((a.tmps.setIfInBounds 49 _).getD 49 undef) = _
    rw [Array.getD_eq_getD_getElem?, Array.getElem?_setIfInBounds_self_of_lt (by rw [h.sl.sz, hT]; omega)]
    rfl
  · rw [getD_set_ne false (by omega), h8] at h1; cases h1
  · rw [getD_set_ne false (by omega), h10] at h1; cases h1
theorem NV.app {T0 : Array Value} {ob B : Nat} {Wz X W1 : World} {v : Value} {p t : ByteArray} {r : Bool} {us : List En} {L : Array Bool} {a : Act} {w w' : World} (h : NV T0 ob B Wz X v p t r us L a w) (hT : T0.size = 57) (h7 : L.getD 7 false = true) (h10 : L.getD 10 false = false) (hL : L.getD 8 true = false) {g2 cap : Nat} (hX : Below X.heap.size X W1)
    (e2 : w'.ownsRow Wz.heap.size 57 3 (.slice (some ⟨g2, 0, none⟩) (us.length + 1) cap) (us.length + 1) (ecells us ++ ecell ⟨p, t, r⟩)) (e3 : W1.grownBy w' v.ownBlock) :
    NV T0 ob B Wz X v p t r us (L.setIfInBounds 8 true) (a.put (some 50) (.slice (some ⟨g2, 0, none⟩) (us.length + 1) cap)) w' := by
  have g := getD_put hL
  refine ⟨h.sl.put (i := 8) nNd (by decide) (show 50 < _ by rw [hT]; omega) (fun u hu => by cases hu), fun h1 => ?_, fun _ h2 => ?_, fun _ _ => ⟨W1, g2, cap, ?_, hX, e2, e3⟩, fun h1 => ?_⟩
  · rw [getD_set_ne false (by omega), h7] at h1; cases h1
  · rw [g] at h2; cases h2
  · show ((a.tmps.setIfInBounds 50 _).getD 50 undef) = _
    rw [Array.getD_eq_getD_getElem?, Array.getElem?_setIfInBounds_self_of_lt (by rw [h.sl.sz, hT]; omega)]
    rfl
  · rw [getD_set_ne false (by omega), h10] at h1; cases h1
theorem NV.last {T0 : Array Value} {ob B : Nat} {Wz X : World} {v : Value} {p t : ByteArray} {r : Bool} {us : List En} {L : Array Bool} {a : Act} {w w' : World} (h : NV T0 ob B Wz X v p t r us L a w) (h7 : L.getD 7 false = true) (h8 : L.getD 8 false = true) (hL : L.getD 10 true = false) (hE : ∃ v', OutSt ob Wz v' (us ++ [⟨p, t, r⟩]) w') :
    NV T0 ob B Wz X v p t r us (L.setIfInBounds 10 true) a w' := by
  have g := getD_put hL
  refine ⟨h.sl.skip rfl, fun h1 => ?_, fun _ h2 => ?_, fun _ h2 => ?_, fun _ => hE⟩
  · rw [getD_set_ne false (by omega), h7] at h1; cases h1
  · rw [getD_set_ne false (by omega), h8] at h2; cases h2
  · rw [g] at h2; cases h2
/-- An append, at a step of a region (RegV) in a round. -/
theorem wpIn_appendR {l n : Nat} {P : Program} {o : Oper} {a : Act} {w w' : World} {K : Act → World → Prop} {Q : Exit → Act → World → Prop} (s x : Operand) (t : TypeId) (ho : o.op = .call { callee := .builtin .append, args := #[s, x], argTypes := #[t, t] }) {v u v' : Value} (hs : a.eval s = v) (hx : a.eval x = u)
    (hr : (Builtin.append_ #[t, t] o.type #[v, u]).run P w = .ok v' w') (hK : K (a.put o.dst v') w') : o.wpIn (Fence.wide.inRound l) n P a w K Q := by
  refine ⟨fun f _ => trivial, ?_⟩
  show Oper.uponIn (Fence.wide.inRound l) n P o a K Q ((Oper.semAt (some l) a.eval o).run P w)
  rw [Oper.semAt_some l a.eval o (fun c e => by rw [ho] at e; cases e)]
  unfold execOp
  simp only [ho, resolve, invoke, builtin, Sem.run_bind, Sem.run_pure, Result.andThen_ok, List.map_toArray, List.map_cons, List.map_nil, hs, hx, hr]
  exact hK

theorem EBox.grown {b : Nat} {e : En} {W W' : World} {row : Option Nat} (h : EBox b e W) (hg : W.grownBy W' row) (hr : row ≠ some b) : EBox b e W' := by
  have hb := hg.block b (World.block_lt_of_cell? W ⟨b, 0, none⟩ h.c0) (fun e => hr e.symm)
  exact ⟨(World.cell?_of_block hb).trans h.c0, (World.cell?_of_block hb).trans h.c1, (World.cell?_of_block hb).trans h.c2⟩

/-- The change that a round goes by. -/
def chA (e : Option En) (c : Option Ch) : Ch := c.getD ⟨(e.getD zeroE).path, fileE (e.getD zeroE), fileE (e.getD zeroE)⟩
theorem sameF_self (f : Fl) : sameF f f = true := by simp [sameF]
theorem round_facts {ts : List En} {cs : List Ch} (ht : ValidTs ts) (hc : ValidP cs) {x : PEC} (hx : x ∈ mrgEC ts cs) :
    badA x.2.1 x.2.2 = !sameF (fileE (x.2.1.getD zeroE)) (chA x.2.1 x.2.2).old ∧
    outA zeroE x.2.1 x.2.2 = (if (chA x.2.1 x.2.2).new.there = true then [⟨(chA x.2.1 x.2.2).path, (chA x.2.1 x.2.2).new.text, (chA x.2.1 x.2.2).new.runs⟩] else []) ∧
    (chA x.2.1 x.2.2).path.size ≤ 1048576 ∧ (chA x.2.1 x.2.2).new.text.size ≤ 1048576 ∧
    (x.2.2 = none ∨ ∃ d, x.2.2 = some d ∧ (d.path.toList == ([] : List UInt8)) = false) := by
  have hsz : ∀ {s : ByteArray}, pathOk pathB s = true → s.size ≤ 1048576 := fun h => by have := pathOk_size h; omega
  have hd : ∀ d ∈ cs, (d.path.toList == ([] : List UInt8)) = false ∧ d.path.size ≤ 1048576 ∧ d.new.text.size ≤ 1048576 := fun d h => by
    obtain ⟨i, hi, rfl⟩ := List.getElem_of_mem h
    obtain ⟨_, h1, _⟩ := hc.2 i hi
    simp only [chOk, flOk, Bool.and_eq_true, decide_eq_true_eq, Bool.not_eq_true'] at h1
    obtain ⟨⟨⟨h1, h2, _⟩, h3, _⟩, h4⟩ := h1
    exact ⟨path_ne0 h1, hsz h1, by omega⟩
  rcases mrgEC_cases ht hc hx with ⟨d, h1, rfl, _⟩ | ⟨e, h1, rfl⟩ | ⟨e, h1, d, h2, h3, rfl⟩
  · exact ⟨rfl, outA_some _ _ _, (hd d h1).2.1, (hd d h1).2.2, .inr ⟨d, rfl, (hd d h1).1⟩⟩
  · have h2 := valid_enF ht h1
    simp only [enOk, Bool.and_eq_true, decide_eq_true_eq] at h2
    have h3 := fileE_some (valid_path ht h1)
    refine ⟨?_, ?_, hsz h2.1, ?_, .inl rfl⟩
    · show false = !sameF (fileE e) (fileE e)
      rw [sameF_self]; rfl
    · rw [outA_none]
      show [e] = if (fileE e).there = true then [⟨e.path, (fileE e).text, (fileE e).runs⟩] else []
      rw [h3]; rfl
    · show (fileE e).text.size ≤ _
      rw [h3]; show e.text.size ≤ _; omega
  · exact ⟨rfl, outA_some _ _ _, (hd d h2).2.1, (hd d h2).2.2, .inr ⟨d, rfl, (hd d h2).1⟩⟩
end Go.Proofs.Ytjlflmbifeocbaa

namespace Go.Proofs.Ytjlflmbifeocbaa
open Go.RowKit

def SetPost (ts : List En) (en : En) (w : World) (e : Ending) (w' : World) : Prop :=
  ∃ ad cap us, e = .returned (.agg #[.slice ad us.length cap]) ∧ SetRel ts en us ∧ EL w.heap.size w' ad us ∧ Below w.heap.size w w' ∧ us.length ≤ ts.length + 1
/-- The same, with the room that there is. -/
def SetPostC (ts : List En) (en : En) (w : World) (e : Ending) (w' : World) : Prop :=
  ∃ ad cap us, e = .returned (.agg #[.slice ad us.length cap]) ∧ SetRel ts en us ∧ EL w.heap.size w' ad us ∧ Below w.heap.size w w' ∧ us.length ≤ ts.length + 1 ∧ us.length ≤ cap
theorem row_room {W : World} {B z : Nat} {e : TypeId} {ad : Option Addr} {n cp : Nat} {xs : List Value} (h : W.ownsRow B e z (.slice ad n cp) n xs) : n ≤ cp := by
  rcases h.2 with ⟨h0, _⟩ | ⟨_, _, _, h0, _, _, h1, _⟩
  · cases h0; exact Nat.le_refl _
  · cases h0; exact h1

set_option maxRecDepth 100000 in
set_option maxHeartbeats 8000000 in
theorem l5SetC_any (a : Option Addr) (cap : Nat) (ts : List En) (en : En) (w : World) (hts : ES w a ts) (hn : ts.length ≤ 1048576) (hA : Asc ts) :
    Calls Try.prog 26 #[.agg #[.slice a ts.length cap], .agg #[.string en.path, .string en.text, .bool en.runs]] w fun e w' => SetPostC ts en w e w' := by
  obtain ⟨i0, hi, hz0, hz1, hzb⟩ := info_parts Try.infoEntry
  have hal : Below w.heap.size w ((((w.alloc (.cells #[.slice a ts.length cap] 25)).alloc (.cells #[.string en.path, .string en.text, .bool en.runs] 57)).alloc (.cells #[.slice none 0 0] 25)).alloc (.cells #[.slice none 0 0] 25)) := ((((Below.refl _ _).alloc (Nat.le_refl _) _).alloc (by simp) _).alloc (by simp; omega) _).alloc (by simp; omega) _
  go_enter Try.func26, Try.ntmps26
  go_wp2_with fail
  have m0 : ((((w.alloc (.cells #[.slice a ts.length cap] 25)).alloc (.cells #[.string en.path, .string en.text, .bool en.runs] 57)).alloc (.cells #[.slice none 0 0] 25)).alloc (.cells #[.slice none 0 0] 25)).cell? ⟨w.heap.size, 0, none⟩ = some (.slice a ts.length cap) := by simp [go_sem]
  have e0 : ((((w.alloc (.cells #[.slice a ts.length cap] 25)).alloc (.cells #[.string en.path, .string en.text, .bool en.runs] 57)).alloc (.cells #[.slice none 0 0] 25)).alloc (.cells #[.slice none 0 0] 25)).cell? ⟨w.heap.size + 1, 0, none⟩ = some (.string en.path) := by simp [go_sem]
  have e1 : ((((w.alloc (.cells #[.slice a ts.length cap] 25)).alloc (.cells #[.string en.path, .string en.text, .bool en.runs] 57)).alloc (.cells #[.slice none 0 0] 25)).alloc (.cells #[.slice none 0 0] 25)).cell? ⟨w.heap.size + 1, 1, none⟩ = some (.string en.text) := by simp [go_sem]
  have e2 : ((((w.alloc (.cells #[.slice a ts.length cap] 25)).alloc (.cells #[.string en.path, .string en.text, .bool en.runs] 57)).alloc (.cells #[.slice none 0 0] 25)).alloc (.cells #[.slice none 0 0] 25)).cell? ⟨w.heap.size + 1, 2, none⟩ = some (.bool en.runs) := by simp [go_sem]
  have k0 : ((((w.alloc (.cells #[.slice a ts.length cap] 25)).alloc (.cells #[.string en.path, .string en.text, .bool en.runs] 57)).alloc (.cells #[.slice none 0 0] 25)).alloc (.cells #[.slice none 0 0] 25)).cell? ⟨w.heap.size + 1 + 1, 0, none⟩ = some (.slice none 0 0) := by simp [go_sem]
  have kf : ((((w.alloc (.cells #[.slice a ts.length cap] 25)).alloc (.cells #[.string en.path, .string en.text, .bool en.runs] 57)).alloc (.cells #[.slice none 0 0] 25)).alloc (.cells #[.slice none 0 0] 25)).frozen? ⟨w.heap.size + 1 + 1, 0, none⟩ = false := by simp [go_sem]
  have o0 : ((((w.alloc (.cells #[.slice a ts.length cap] 25)).alloc (.cells #[.string en.path, .string en.text, .bool en.runs] 57)).alloc (.cells #[.slice none 0 0] 25)).alloc (.cells #[.slice none 0 0] 25)).cell? ⟨w.heap.size + 1 + 1 + 1, 0, none⟩ = some (.slice none 0 0) := by simp [go_sem]
  have of0 : ((((w.alloc (.cells #[.slice a ts.length cap] 25)).alloc (.cells #[.string en.path, .string en.text, .bool en.runs] 57)).alloc (.cells #[.slice none 0 0] 25)).alloc (.cells #[.slice none 0 0] 25)).frozen? ⟨w.heap.size + 1 + 1 + 1, 0, none⟩ = false := by simp [go_sem]
  have os0 : w.heap.size + 1 + 1 + 1 < ((((w.alloc (.cells #[.slice a ts.length cap] 25)).alloc (.cells #[.string en.path, .string en.text, .bool en.runs] 57)).alloc (.cells #[.slice none 0 0] 25)).alloc (.cells #[.slice none 0 0] 25)).heap.size := by simp [go_sem]
  generalize (((w.alloc (.cells #[.slice a ts.length cap] 25)).alloc (.cells #[.string en.path, .string en.text, .bool en.runs] 57)).alloc (.cells #[.slice none 0 0] 25)).alloc (.cells #[.slice none 0 0] 25) = W0 at *
  obtain ⟨ob, hob⟩ : ∃ ob, ob = w.heap.size + 1 + 1 + 1 := ⟨_, rfl⟩
  obtain ⟨g, hg⟩ : ∃ g, g = w.heap.size + 1 + 1 := ⟨_, rfl⟩
  obtain ⟨be, hbe⟩ : ∃ be, be = w.heap.size + 1 := ⟨_, rfl⟩
  obtain ⟨tb, htb⟩ : ∃ tb, tb = w.heap.size := ⟨_, rfl⟩
  rw [← hob] at o0 of0 os0 ⊢
  rw [← hg] at k0 kf ⊢
  rw [← hbe] at e0 e1 e2 ⊢
  rw [← htb] at m0 ⊢
  have HS : Keep (tb = w.heap.size ∧ be = tb + 1 ∧ g = tb + 2 ∧ ob = tb + 3 ∧ ob < W0.heap.size) := ⟨by omega⟩
  have hst0 := OutSt.start o0 of0 os0
  have HA : Keep (Asc ts) := ⟨hA⟩
  clear hob hg hbe htb o0 of0 os0 hA
  go_loopw [6, 7] (fun d i wr => ∃ (k : Nat) (dn : Bool) (v : Value) (us : List En), d = .bool dn ∧ i = .int .i64 k ∧ k ≤ ts.length ∧ Keep (SInv ts en k dn us) ∧ OutSt ob W0 v us wr) (fun _ i _ => ts.length - (intOf i).toNat)
  case atStart => exact ⟨0, false, _, [], rfl, rfl, Nat.zero_le _, ⟨SInv.start ts en⟩, hst0⟩
  case round =>
    clear hst0
    obtain ⟨k, dn, v, us, rfl, rfl, hk, hI, hst⟩ := hrel
    have hul := hI.out.len
    have hbr := hst.below hal (by have := HS.out; omega)
    have hEr := hts.below hbr
    have mr := hst.keep m0 (by have := HS.out; omega) (by have := HS.out; omega)
    have E0 := hst.keep e0 (by have := HS.out; omega) (by have := HS.out; omega)
    have E1 := hst.keep e1 (by have := HS.out; omega) (by have := HS.out; omega)
    have E2 := hst.keep e2 (by have := HS.out; omega) (by have := HS.out; omega)
    have o1 := hst.cell
    by_cases hlt : k < ts.length
    · have hlt' : (k : Int) < ts.length := by omega
      obtain ⟨b, off, rfl, hc⟩ := hEr.at hlt
      obtain ⟨x0, x1, x2⟩ := hc k hlt
      clear hc hEr
      cases hq : (ts[k].path.toList == en.path.toList) with
      | true =>
        have hpe : ts[k].path = en.path := by
          rw [beq_iff_eq, Lib.toList_data, Lib.toList_data] at hq
          exact WideShapes.bytes_inj hq
        have hll : Op.bytesLess ts[k].path.toList en.path.toList = false := by rw [hpe]; exact less_irrefl _
        have hll2 : Op.bytesLess en.path.toList ts[k].path.toList = false := by rw [hpe]; exact less_irrefl _
        have HPE : Keep (ts[k].path = en.path) := ⟨hpe⟩
        clear hpe
        cases dn with
        | true =>
          have HI : Keep (SInv ts en (k + 1) true us) := ⟨hI.out.skip hlt HPE.out⟩
          clear hI
          go_wp2_with fail
          go_quiet (fail)
          have hD : Below wr.heap.size wr (wr.drewN nq) := below_drewN (Below.refl _ _) _
          replace hst := hst.later hD
          replace mr := cell_later hD mr
          replace E0 := cell_later hD E0
          replace E1 := cell_later hD E1
          replace E2 := cell_later hD E2
          replace x0 := cell_later hD x0
          replace x1 := cell_later hD x1
          replace x2 := cell_later hD x2
          replace o1 := cell_later hD o1
          generalize wr.drewN nq = Wa at *
          clear hD
          go_wp2_with fail
          go_quiet (fail)
          have hD : Below Wa.heap.size Wa (Wa.drewN nq) := below_drewN (Below.refl _ _) _
          replace hst := hst.later hD
          replace mr := cell_later hD mr
          replace E0 := cell_later hD E0
          replace E1 := cell_later hD E1
          replace E2 := cell_later hD E2
          replace x0 := cell_later hD x0
          replace x1 := cell_later hD x1
          replace x2 := cell_later hD x2
          replace o1 := cell_later hD o1
          generalize Wa.drewN nq = Wb at *
          clear hD
          go_wp2
          go_roundw
          case rel => exact ⟨k + 1, true, _, _, rfl, by congr 1, hlt, HI, hst⟩
          case measure => simp only [intOf]; omega
        | false =>
          have HI : Keep (SInv ts en (k + 1) true (us ++ [en])) := ⟨(hI.out.put HA.out hlt hll).skip hlt HPE.out⟩
          clear hI
          go_wp2_with fail
          go_quiet (fail)
          have hD : Below wr.heap.size wr (wr.drewN nq) := below_drewN (Below.refl _ _) _
          replace hst := hst.later hD
          replace mr := cell_later hD mr
          replace E0 := cell_later hD E0
          replace E1 := cell_later hD E1
          replace E2 := cell_later hD E2
          replace x0 := cell_later hD x0
          replace x1 := cell_later hD x1
          replace x2 := cell_later hD x2
          replace o1 := cell_later hD o1
          generalize wr.drewN nq = Wa at *
          clear hD
          have hb1 : Below Wa.heap.size Wa (Wa.alloc (.cells #[.string en.path, .string en.text, .bool en.runs] 57)) := (Below.refl _ _).alloc (Nat.le_refl _) _
          go_wp2_with (first
            | (at_builtin; refine wpList_append_lies _ rfl _ _ 23 rfl W0.heap.size 57 i0 _ 3 40 Try.underlying23 hi hz0 hz1 hzb rfl (by decide) v us.length (ecells us) rfl (hst.row.alloc _) ⟨Wa.heap.size, 0, none⟩ 1 1 (ecell en) rfl rfl (news_3 Wa en _ _ rfl) (one_3 en) (by omega) (by unfold maxLen; omega) (by omega) (by have := hst.grown.size; simp; omega) (Wa.heap.size + 1) (by simp) ?_; intro g2 cap2 w2 hown2 hgrow2 hat2 hlt2; obtain ⟨hc2, hf2⟩ := hst.mid hb1 hgrow2))
          replace hst := hst.append hb1 hgrow2 hown2
          clear hc2 hf2 hb1 hgrow2 hown2 hat2 hlt2 o1 mr E0 E1 E2 x0 x1 x2
          have hlen2 : (us ++ [en]).length ≤ 1048578 := by simp; omega
          generalize hv2 : Value.slice (some ⟨g2, 0, none⟩) (us.length + 1) cap2 = v2 at *
          generalize us ++ [en] = us2 at *
          generalize w2.setCell ⟨ob, 0, none⟩ v2 = Wc at *
          have hbr := hst.below hal (by have := HS.out; omega)
          obtain ⟨b', off', hbo, hc⟩ := (hts.below hbr).at hlt
          cases hbo
          obtain ⟨x0, x1, x2⟩ := hc k hlt
          have mr := hst.keep m0 (by have := HS.out; omega) (by have := HS.out; omega)
          have E0 := hst.keep e0 (by have := HS.out; omega) (by have := HS.out; omega)
          have E1 := hst.keep e1 (by have := HS.out; omega) (by have := HS.out; omega)
          have E2 := hst.keep e2 (by have := HS.out; omega) (by have := HS.out; omega)
          have o1 := hst.cell
          clear hc
          go_wp2_with fail
          go_quiet (fail)
          have hD : Below Wc.heap.size Wc (Wc.drewN nq) := below_drewN (Below.refl _ _) _
          replace hst := hst.later hD
          replace mr := cell_later hD mr
          replace E0 := cell_later hD E0
          replace E1 := cell_later hD E1
          replace E2 := cell_later hD E2
          replace x0 := cell_later hD x0
          replace x1 := cell_later hD x1
          replace x2 := cell_later hD x2
          replace o1 := cell_later hD o1
          generalize Wc.drewN nq = Wd at *
          clear hD
          go_wp2
          go_roundw
          case rel => exact ⟨k + 1, true, _, _, rfl, by congr 1, hlt, HI, hst⟩
          case measure => simp only [intOf]; omega
      | false =>
        have hpe : ts[k].path ≠ en.path := fun e => by rw [e] at hq; simp at hq
        have HPE : Keep (ts[k].path ≠ en.path) := ⟨hpe⟩
        clear hpe
        have hqc : (en.path.toList == ts[k].path.toList) = false := by
          rw [Bool.eq_false_iff] at hq ⊢
          intro h; apply hq; rw [beq_iff_eq] at h ⊢; exact h.symm
        cases dn with
        | true =>
          have HI : Keep (SInv ts en (k + 1) true (us ++ [ts[k]])) := ⟨hI.out.app HA.out hlt (fun h => by cases h) HPE.out⟩
          clear hI
          go_wp2_with fail
          go_quiet (fail)
          have hD : Below wr.heap.size wr (wr.drewN nq) := below_drewN (Below.refl _ _) _
          replace hst := hst.later hD
          replace mr := cell_later hD mr
          replace E0 := cell_later hD E0
          replace E1 := cell_later hD E1
          replace E2 := cell_later hD E2
          replace x0 := cell_later hD x0
          replace x1 := cell_later hD x1
          replace x2 := cell_later hD x2
          replace o1 := cell_later hD o1
          generalize wr.drewN nq = Wa at *
          clear hD
          go_wp2_with fail
          go_quiet (fail)
          have hD : Below Wa.heap.size Wa (Wa.drewN nq) := below_drewN (Below.refl _ _) _
          replace hst := hst.later hD
          replace mr := cell_later hD mr
          replace E0 := cell_later hD E0
          replace E1 := cell_later hD E1
          replace E2 := cell_later hD E2
          replace x0 := cell_later hD x0
          replace x1 := cell_later hD x1
          replace x2 := cell_later hD x2
          replace o1 := cell_later hD o1
          generalize Wa.drewN nq = Wb at *
          clear hD
          have hb1 : Below Wb.heap.size Wb ((Wb.alloc (.cells #[.string ts[k].path, .string ts[k].text, .bool ts[k].runs] 57)).drew) := ((Below.refl _ _).alloc (Nat.le_refl _) _).drew
          have o1a : ∀ o, (Wb.alloc o).cell? ⟨ob, 0, none⟩ = some v := fun o => cell_later ((Below.refl _ _).alloc (Nat.le_refl _) _) o1
          go_wp2_with fail
          go_region_law (refine step_append_lies _ rfl _ _ 23 rfl W0.heap.size 57 i0 _ 3 40 Try.underlying23 hi hz0 hz1 hzb rfl (by decide) v us.length (ecells us) rfl (by exact owns_below hst.row hb1) ⟨Wb.heap.size, 0, none⟩ 1 1 (ecell ts[k]) rfl rfl (by exact news_3 _ _ _ _ (by simp)) (by exact one_3 _) (by omega) (by unfold maxLen; omega) (by omega) (by have := hst.grown.size; simp; omega) (Wb.heap.size + 1) (by simp) ?_; intro g3 cap3 w3 hown3 hgrow3 hat3 hlt3; obtain ⟨hc3, hf3⟩ := hst.mid hb1 hgrow3)
          all_goals
            have hst3 := hst.append hb1 hgrow3 hown3
            have HI3 : Keep (SInv ts en (k + 1) true (us ++ [ts[k]])) := ⟨HI.out⟩
            clear hst hb1 hgrow3 hown3 hat3 hlt3 hc3 hf3 o1 o1a mr E0 E1 E2 x0 x1 x2
            go_wp2
            go_roundw
            case rel => exact ⟨k + 1, _, _, _, rfl, by congr 1, hlt, HI3, hst3⟩
            case measure => simp only [intOf]; omega
        | false =>
          cases hll : Op.bytesLess ts[k].path.toList en.path.toList with
          | true =>
            have hll2 : Op.bytesLess en.path.toList ts[k].path.toList = false := by
              cases h : Op.bytesLess en.path.toList ts[k].path.toList with
              | false => rfl
              | true => have := less_trans hll h; rw [less_irrefl] at this; cases this
            have HI : Keep (SInv ts en (k + 1) false (us ++ [ts[k]])) := ⟨hI.out.app HA.out hlt (fun _ => hll) HPE.out⟩
            clear hI
            go_wp2_with fail
            go_quiet (fail)
            have hD : Below wr.heap.size wr (wr.drewN nq) := below_drewN (Below.refl _ _) _
            replace hst := hst.later hD
            replace mr := cell_later hD mr
            replace E0 := cell_later hD E0
            replace E1 := cell_later hD E1
            replace E2 := cell_later hD E2
            replace x0 := cell_later hD x0
            replace x1 := cell_later hD x1
            replace x2 := cell_later hD x2
            replace o1 := cell_later hD o1
            generalize wr.drewN nq = Wa at *
            clear hD
            go_wp2_with fail
            go_quiet (fail)
            have hD : Below Wa.heap.size Wa (Wa.drewN nq) := below_drewN (Below.refl _ _) _
            replace hst := hst.later hD
            replace mr := cell_later hD mr
            replace E0 := cell_later hD E0
            replace E1 := cell_later hD E1
            replace E2 := cell_later hD E2
            replace x0 := cell_later hD x0
            replace x1 := cell_later hD x1
            replace x2 := cell_later hD x2
            replace o1 := cell_later hD o1
            generalize Wa.drewN nq = Wb at *
            clear hD
            have hb1 : Below Wb.heap.size Wb ((Wb.alloc (.cells #[.string ts[k].path, .string ts[k].text, .bool ts[k].runs] 57)).drew) := ((Below.refl _ _).alloc (Nat.le_refl _) _).drew
            have o1a : ∀ o, (Wb.alloc o).cell? ⟨ob, 0, none⟩ = some v := fun o => cell_later ((Below.refl _ _).alloc (Nat.le_refl _) _) o1
            go_wp2_with fail
            go_region_law (refine step_append_lies _ rfl _ _ 23 rfl W0.heap.size 57 i0 _ 3 40 Try.underlying23 hi hz0 hz1 hzb rfl (by decide) v us.length (ecells us) rfl (by exact owns_below hst.row hb1) ⟨Wb.heap.size, 0, none⟩ 1 1 (ecell ts[k]) rfl rfl (by exact news_3 _ _ _ _ (by simp)) (by exact one_3 _) (by omega) (by unfold maxLen; omega) (by omega) (by have := hst.grown.size; simp; omega) (Wb.heap.size + 1) (by simp) ?_; intro g3 cap3 w3 hown3 hgrow3 hat3 hlt3; obtain ⟨hc3, hf3⟩ := hst.mid hb1 hgrow3)
            all_goals
              have hst3 := hst.append hb1 hgrow3 hown3
              have HI3 : Keep (SInv ts en (k + 1) false (us ++ [ts[k]])) := ⟨HI.out⟩
              clear hst hb1 hgrow3 hown3 hat3 hlt3 hc3 hf3 o1 o1a mr E0 E1 E2 x0 x1 x2
              go_wp2
              go_roundw
              case rel => exact ⟨k + 1, _, _, _, rfl, by congr 1, hlt, HI3, hst3⟩
              case measure => simp only [intOf]; omega
          | false =>
            have hll2 : Op.bytesLess en.path.toList ts[k].path.toList = true := less_of hll HPE.out
            have HI : Keep (SInv ts en (k + 1) true (us ++ [en] ++ [ts[k]])) := ⟨(hI.out.put HA.out hlt hll).app HA.out hlt (fun h => by cases h) HPE.out⟩
            clear hI
            go_wp2_with fail
            go_quiet (fail)
            have hD : Below wr.heap.size wr (wr.drewN nq) := below_drewN (Below.refl _ _) _
            replace hst := hst.later hD
            replace mr := cell_later hD mr
            replace E0 := cell_later hD E0
            replace E1 := cell_later hD E1
            replace E2 := cell_later hD E2
            replace x0 := cell_later hD x0
            replace x1 := cell_later hD x1
            replace x2 := cell_later hD x2
            replace o1 := cell_later hD o1
            generalize wr.drewN nq = Wa at *
            clear hD
            have hb1 : Below Wa.heap.size Wa (Wa.alloc (.cells #[.string en.path, .string en.text, .bool en.runs] 57)) := (Below.refl _ _).alloc (Nat.le_refl _) _
            go_wp2_with (first
              | (at_builtin; refine wpList_append_lies _ rfl _ _ 23 rfl W0.heap.size 57 i0 _ 3 40 Try.underlying23 hi hz0 hz1 hzb rfl (by decide) v us.length (ecells us) rfl (hst.row.alloc _) ⟨Wa.heap.size, 0, none⟩ 1 1 (ecell en) rfl rfl (news_3 Wa en _ _ rfl) (one_3 en) (by omega) (by unfold maxLen; omega) (by omega) (by have := hst.grown.size; simp; omega) (Wa.heap.size + 1) (by simp) ?_; intro g2 cap2 w2 hown2 hgrow2 hat2 hlt2; obtain ⟨hc2, hf2⟩ := hst.mid hb1 hgrow2))
            replace hst := hst.append hb1 hgrow2 hown2
            clear hc2 hf2 hb1 hgrow2 hown2 hat2 hlt2 o1 mr E0 E1 E2 x0 x1 x2
            have hlen2 : (us ++ [en]).length ≤ 1048578 := by simp; omega
            generalize hv2 : Value.slice (some ⟨g2, 0, none⟩) (us.length + 1) cap2 = v2 at *
            generalize us ++ [en] = us2 at *
            generalize w2.setCell ⟨ob, 0, none⟩ v2 = Wc at *
            have hbr := hst.below hal (by have := HS.out; omega)
            obtain ⟨b', off', hbo, hc⟩ := (hts.below hbr).at hlt
            cases hbo
            obtain ⟨x0, x1, x2⟩ := hc k hlt
            have mr := hst.keep m0 (by have := HS.out; omega) (by have := HS.out; omega)
            have E0 := hst.keep e0 (by have := HS.out; omega) (by have := HS.out; omega)
            have E1 := hst.keep e1 (by have := HS.out; omega) (by have := HS.out; omega)
            have E2 := hst.keep e2 (by have := HS.out; omega) (by have := HS.out; omega)
            have o1 := hst.cell
            clear hc
            go_wp2_with fail
            go_quiet (fail)
            have hD : Below Wc.heap.size Wc (Wc.drewN nq) := below_drewN (Below.refl _ _) _
            replace hst := hst.later hD
            replace mr := cell_later hD mr
            replace E0 := cell_later hD E0
            replace E1 := cell_later hD E1
            replace E2 := cell_later hD E2
            replace x0 := cell_later hD x0
            replace x1 := cell_later hD x1
            replace x2 := cell_later hD x2
            replace o1 := cell_later hD o1
            generalize Wc.drewN nq = Wd at *
            clear hD
            have hb1 : Below Wd.heap.size Wd ((Wd.alloc (.cells #[.string ts[k].path, .string ts[k].text, .bool ts[k].runs] 57)).drew) := ((Below.refl _ _).alloc (Nat.le_refl _) _).drew
            have o1a : ∀ o, (Wd.alloc o).cell? ⟨ob, 0, none⟩ = some v2 := fun o => cell_later ((Below.refl _ _).alloc (Nat.le_refl _) _) o1
            go_wp2_with fail
            go_region_law (refine step_append_lies _ rfl _ _ 23 rfl W0.heap.size 57 i0 _ 3 40 Try.underlying23 hi hz0 hz1 hzb rfl (by decide) v2 us2.length (ecells us2) rfl (by exact owns_below hst.row hb1) ⟨Wd.heap.size, 0, none⟩ 1 1 (ecell ts[k]) rfl rfl (by exact news_3 _ _ _ _ (by simp)) (by exact one_3 _) (by omega) (by unfold maxLen; omega) (by omega) (by have := hst.grown.size; simp; omega) (Wd.heap.size + 1) (by simp) ?_; intro g3 cap3 w3 hown3 hgrow3 hat3 hlt3; obtain ⟨hc3, hf3⟩ := hst.mid hb1 hgrow3)
            all_goals
              have hst3 := hst.append hb1 hgrow3 hown3
              have HI3 : Keep (SInv ts en (k + 1) true (us2 ++ [ts[k]])) := ⟨HI.out⟩
              clear hst hb1 hgrow3 hown3 hat3 hlt3 hc3 hf3 o1 o1a mr E0 E1 E2 x0 x1 x2
              go_wp2
              go_roundw
              case rel => exact ⟨k + 1, _, _, _, rfl, by congr 1, hlt, HI3, hst3⟩
              case measure => simp only [intOf]; omega
    · obtain rfl : k = ts.length := by omega
      have k2 := hst.keep k0 (by have := HS.out; omega) (by have := HS.out; omega)
      have kf2 : wr.frozen? ⟨g, 0, none⟩ = false := frozen_of (hst.grown.block g (by have := HS.out; omega) (by have := HS.out; simp; omega)) kf
      have hgw : w.heap.size ≤ g := by have := HS.out; omega
      have hgW : g < W0.heap.size := by have := HS.out; omega
      clear hEr
      cases dn with
      | true =>
        have HR : Keep (SetRel ts en us) := ⟨hI.out.done⟩
        obtain ⟨ad, cap2, rfl⟩ := owns_slice hst.row
        have hel := el_of_row hst.row
        have hroom := row_room hst.row
        have hel2 := (hel.grown (row := some g) (grown_set0 wr g 0 (.slice ad us.length cap2)) (fun j _ hj _ e => by cases e; omega)).mono hal.size
        clear hI hel
        go_wp2
        refine bodyPost_ret (v := .agg #[.slice ad us.length cap2]) ?_ rfl ⟨ad, cap2, us, rfl, HR.out, hel2, hbr.setCell (p := ⟨g, 0, none⟩) hgw _, hul, hroom⟩
        go_light
        simp [results, Try.results26, go_sem, k2]
      | false =>
        have HR : Keep (SetRel ts en (us ++ [en])) := ⟨hI.out.last HA.out⟩
        have hul2 : us.length ≤ ts.length := by
          rcases hI.out with ⟨_, rfl, _⟩ | ⟨h, _⟩
          · simp
          · cases h
        clear hI
        have hgo : g ≠ ob := by have := HS.out; omega
        have hgo1 : ¬ g = ob := hgo
        have hgo2 : ¬ ob = g := fun e => hgo e.symm
        have hb1 : Below wr.heap.size wr (wr.alloc (.cells #[.string en.path, .string en.text, .bool en.runs] 57)) := (Below.refl _ _).alloc (Nat.le_refl _) _
        go_wp2_with (first
          | (at_builtin; refine wpList_append_lies _ rfl _ _ 23 rfl W0.heap.size 57 i0 _ 3 40 Try.underlying23 hi hz0 hz1 hzb rfl (by decide) v us.length (ecells us) rfl (hst.row.alloc _) ⟨wr.heap.size, 0, none⟩ 1 1 (ecell en) rfl rfl (news_3 wr en _ _ rfl) (one_3 en) (by omega) (by unfold maxLen; omega) (by omega) (by have := hst.grown.size; simp; omega) (wr.heap.size + 1) (by simp) ?_; intro g2 cap2 w2 hown2 hgrow2 hat2 hlt2; obtain ⟨hc2, hf2⟩ := hst.mid hb1 hgrow2; have hB2 := hst.midBlock hb1 hgrow2 hgW hgo; have k3 := (World.cell?_of_block hB2).trans k0; have kf3 := frozen_of hB2 kf))
        replace hst := hst.append hb1 hgrow2 hown2
        have hbr3 := hst.below hal (by have := HS.out; omega)
        have hel := el_of_row (us := us ++ [en]) (ad := some ⟨g2, 0, none⟩) (cap := cap2) (by have := hst.row; rw [List.length_append] at this ⊢; exact this)
        have hel2 := (hel.grown (row := some g) (grown_set0 _ g 0 (.slice (some ⟨g2, 0, none⟩) (us.length + 1) cap2)) (fun j _ hj _ e => by cases e; omega)).mono hal.size
        have hbr4 := hbr3.setCell (p := ⟨g, 0, none⟩) hgw (.slice (some ⟨g2, 0, none⟩) (us.length + 1) cap2)
        refine bodyPost_ret (v := .agg #[.slice (some ⟨g2, 0, none⟩) (us ++ [en]).length cap2]) ?_ rfl ⟨some ⟨g2, 0, none⟩, cap2, us ++ [en], rfl, HR.out, hel2, hbr4, by simp; omega, by have := row_room hown2; simp; omega⟩
        go_light
        simp [results, Try.results26, go_sem, k3]

theorem l5Set_any (a : Option Addr) (cap : Nat) (ts : List En) (en : En) (w : World) (hts : ES w a ts) (hn : ts.length ≤ 1048576) (hA : Asc ts) :
    Calls Try.prog 26 #[.agg #[.slice a ts.length cap], .agg #[.string en.path, .string en.text, .bool en.runs]] w fun e w' => SetPost ts en w e w' :=
  (l5SetC_any a cap ts en w hts hn hA).mono (fun _ _ ⟨ad, cp, us, h1, h2, h3, h4, h5, _⟩ => ⟨ad, cp, us, h1, h2, h3, h4, h5⟩)
end Go.Proofs.Ytjlflmbifeocbaa

namespace Go.Proofs.Ytjlflmbifeocbaa
open Go.RowKit

def LayPost6 (ts : List En) (p : ByteArray) (f : Fl) (w : World) (e : Ending) (w' : World) : Prop :=
  ∃ ad cap us, e = .returned (.agg #[.slice ad us.length cap]) ∧ LayRel ts p f us ∧ EL w.heap.size w' ad us ∧ Below w.heap.size w w' ∧ us.length ≤ ts.length + 1

def LayPost6C (ts : List En) (p : ByteArray) (f : Fl) (w : World) (e : Ending) (w' : World) : Prop :=
  ∃ ad cap us, e = .returned (.agg #[.slice ad us.length cap]) ∧ LayRel ts p f us ∧ EL w.heap.size w' ad us ∧ Below w.heap.size w w' ∧ us.length ≤ ts.length + 1 ∧ us.length ≤ cap

set_option maxRecDepth 100000 in
set_option maxHeartbeats 8000000 in
theorem l6LayC_any (a : Option Addr) (cap : Nat) (ts : List En) (p : ByteArray) (f : Fl) (w : World) (hts : ES w a ts) (hn : ts.length ≤ 1000000) (hA : Asc ts) :
    Calls Try.prog 24 #[.agg #[.slice a ts.length cap], .string p, .agg #[.bool f.there, .string f.text, .bool f.runs]] w fun e w' => LayPost6C ts p f w e w' := by
  obtain ⟨i0, hi, hz0, hz1, hz2⟩ := info_parts Try.infoEntry
  have hal : Below w.heap.size w ((((w.alloc (.cells #[.slice a ts.length cap] 25)).alloc (.cells #[.bool f.there, .string f.text, .bool f.runs] 54)).alloc (.cells #[.slice none 0 0] 25)).alloc (.cells #[.slice none 0 0] 25)) := ((((Below.refl _ _).alloc (Nat.le_refl _) _).alloc (by simp) _).alloc (by simp; omega) _).alloc (by simp; omega) _
  have m0 : ((((w.alloc (.cells #[.slice a ts.length cap] 25)).alloc (.cells #[.bool f.there, .string f.text, .bool f.runs] 54)).alloc (.cells #[.slice none 0 0] 25)).alloc (.cells #[.slice none 0 0] 25)).cell? ⟨w.heap.size, 0, none⟩ = some (.slice a ts.length cap) := by simp [go_sem]
  have f0 : ((((w.alloc (.cells #[.slice a ts.length cap] 25)).alloc (.cells #[.bool f.there, .string f.text, .bool f.runs] 54)).alloc (.cells #[.slice none 0 0] 25)).alloc (.cells #[.slice none 0 0] 25)).cell? ⟨w.heap.size + 1, 0, none⟩ = some (.bool f.there) := by simp [go_sem]
  have f1 : ((((w.alloc (.cells #[.slice a ts.length cap] 25)).alloc (.cells #[.bool f.there, .string f.text, .bool f.runs] 54)).alloc (.cells #[.slice none 0 0] 25)).alloc (.cells #[.slice none 0 0] 25)).cell? ⟨w.heap.size + 1, 1, none⟩ = some (.string f.text) := by simp [go_sem]
  have f2 : ((((w.alloc (.cells #[.slice a ts.length cap] 25)).alloc (.cells #[.bool f.there, .string f.text, .bool f.runs] 54)).alloc (.cells #[.slice none 0 0] 25)).alloc (.cells #[.slice none 0 0] 25)).cell? ⟨w.heap.size + 1, 2, none⟩ = some (.bool f.runs) := by simp [go_sem]
  have k0 : ((((w.alloc (.cells #[.slice a ts.length cap] 25)).alloc (.cells #[.bool f.there, .string f.text, .bool f.runs] 54)).alloc (.cells #[.slice none 0 0] 25)).alloc (.cells #[.slice none 0 0] 25)).cell? ⟨w.heap.size + 1 + 1, 0, none⟩ = some (.slice none 0 0) := by simp [go_sem]
  have kf : ((((w.alloc (.cells #[.slice a ts.length cap] 25)).alloc (.cells #[.bool f.there, .string f.text, .bool f.runs] 54)).alloc (.cells #[.slice none 0 0] 25)).alloc (.cells #[.slice none 0 0] 25)).frozen? ⟨w.heap.size + 1 + 1, 0, none⟩ = false := by simp [go_sem]
  have o0 : ((((w.alloc (.cells #[.slice a ts.length cap] 25)).alloc (.cells #[.bool f.there, .string f.text, .bool f.runs] 54)).alloc (.cells #[.slice none 0 0] 25)).alloc (.cells #[.slice none 0 0] 25)).cell? ⟨w.heap.size + 1 + 1 + 1, 0, none⟩ = some (.slice none 0 0) := by simp [go_sem]
  have of0 : ((((w.alloc (.cells #[.slice a ts.length cap] 25)).alloc (.cells #[.bool f.there, .string f.text, .bool f.runs] 54)).alloc (.cells #[.slice none 0 0] 25)).alloc (.cells #[.slice none 0 0] 25)).frozen? ⟨w.heap.size + 1 + 1 + 1, 0, none⟩ = false := by simp [go_sem]
  have os0 : w.heap.size + 1 + 1 + 1 < ((((w.alloc (.cells #[.slice a ts.length cap] 25)).alloc (.cells #[.bool f.there, .string f.text, .bool f.runs] 54)).alloc (.cells #[.slice none 0 0] 25)).alloc (.cells #[.slice none 0 0] 25)).heap.size := by simp [go_sem]
  go_enter Try.func24, Try.ntmps24
  go_wp2
  generalize (((w.alloc (.cells #[.slice a ts.length cap] 25)).alloc (.cells #[.bool f.there, .string f.text, .bool f.runs] 54)).alloc (.cells #[.slice none 0 0] 25)).alloc (.cells #[.slice none 0 0] 25) = W at *
  obtain ⟨ob, hob⟩ : ∃ ob, ob = w.heap.size + 1 + 1 + 1 := ⟨_, rfl⟩
  obtain ⟨g, hg⟩ : ∃ g, g = w.heap.size + 1 + 1 := ⟨_, rfl⟩
  obtain ⟨fb, hfb⟩ : ∃ fb, fb = w.heap.size + 1 := ⟨_, rfl⟩
  obtain ⟨ta, hta⟩ : ∃ ta, ta = w.heap.size := ⟨_, rfl⟩
  rw [← hob] at o0 of0 os0 ⊢
  rw [← hg] at k0 kf ⊢
  rw [← hfb] at f0 f1 f2 ⊢
  rw [← hta] at m0 ⊢
  have HS : Keep (ta = w.heap.size ∧ fb = w.heap.size + 1 ∧ g = w.heap.size + 2 ∧ ob = w.heap.size + 3 ∧ ob < W.heap.size) := ⟨by omega⟩
  have hst0 := OutSt.start o0 of0 os0
  clear hob hg hfb hta o0 of0 os0
  go_loopw [8] (fun i wr => ∃ (k : Nat) (v : Value), i = .int .i64 k ∧ k ≤ ts.length ∧ OutSt ob W v (offP (ts.take k) p) wr) (fun i _ => ts.length - (intOf i).toNat)
  case atStart => exact ⟨0, _, rfl, Nat.zero_le _, hst0⟩
  case round =>
    clear hst0
    obtain ⟨k, v, rfl, hk, hst⟩ := hrel
    have hbr := hst.below hal (by have := HS.out; omega)
    have mr := hst.keep m0 (by have := HS.out; omega) (by have := HS.out; omega)
    by_cases hlt : k < ts.length
    · have hlt' : (k : Int) < ts.length := by omega
      obtain ⟨b, off, rfl, hc⟩ := (hts.below hbr).at hlt
      obtain ⟨x0, x1, x2⟩ := hc k hlt
      have hwt := offP_take (p := p) hlt
      cases hq : (ts[k].path.toList == p.toList) with
      | true =>
        rw [hq] at hwt
        simp only [if_true] at hwt
        have HW : Keep (offP (ts.take (k + 1)) p = offP (ts.take k) p) := ⟨hwt⟩
        have hq2 : (ts[k].path.toList != p.toList) = false := by simpa using hq
        clear hwt hc
        go_wp2
        go_roundw
        case rel => exact ⟨k + 1, v, by congr 1, hlt, by rw [HW.out]; exact hst⟩
        case measure => simp only [intOf]; omega
      | false =>
        rw [hq] at hwt
        simp only [Bool.false_eq_true, if_false] at hwt
        have HW : Keep (offP (ts.take (k + 1)) p = offP (ts.take k) p ++ [ts[k]]) := ⟨hwt⟩
        have hq2 : (ts[k].path.toList != p.toList) = true := by simpa using hq
        have hlen : (offP (ts.take k) p).length ≤ 1048576 := Nat.le_trans offP_len (by simp; omega)
        clear hwt hc
        generalize offP (ts.take k) p = us at *
        have hb1 : Below wr.heap.size wr (wr.alloc (.cells #[.string ts[k].path, .string ts[k].text, .bool ts[k].runs] 57)).drew := ((Below.refl _ _).alloc (Nat.le_refl _) _).drew
        have o1 := hst.cell
        have o1a : ∀ o, (wr.alloc o).cell? ⟨ob, 0, none⟩ = some v := fun o => cell_later ((Below.refl _ _).alloc (Nat.le_refl _) o) o1
        have HST : Keep (OutSt ob W v us wr) := ⟨hst⟩
        have hgs := hst.grown.size
        clear hst hbr
        go_wp2_with fail
        go_region_law (refine step_append_lies _ rfl _ _ 23 rfl W.heap.size 57 i0 _ 3 40 Try.underlying23 hi hz0 hz1 hz2 rfl (by decide) v us.length (ecells us) rfl (by exact owns_below HST.out.row hb1) ⟨wr.heap.size, 0, none⟩ 1 1 (ecell ts[k]) rfl rfl (by exact news_3 _ _ _ _ (by simp)) (by exact one_3 _) (by omega) (by unfold maxLen; omega) (by omega) (by simp; omega) (wr.heap.size + 1) (by simp) ?_; intro g2 cap2 w2 hown2 hgrow2 hat2 hlt2; have hm3 := HST.out.mid hb1 hgrow2; have oc3 := hm3.1; have of3 := hm3.2)
        all_goals
          have hst3 := HST.out.append hb1 hgrow2 hown2
          clear hm3 oc3 of3 hgrow2 hown2 hat2 hlt2 o1 o1a x0 x1 x2 mr HST
          go_wp2
          go_roundw
          case rel => exact ⟨k + 1, _, by congr 1, hlt, by rw [HW.out]; exact hst3⟩
          case measure => simp only [intOf]; omega
    · obtain rfl : k = ts.length := by omega
      rw [List.take_length] at hst
      have k2 := hst.keep k0 (by have := HS.out; omega) (by have := HS.out; omega)
      have g0 := hst.keep f0 (by have := HS.out; omega) (by have := HS.out; omega)
      have g1 := hst.keep f1 (by have := HS.out; omega) (by have := HS.out; omega)
      have g2 := hst.keep f2 (by have := HS.out; omega) (by have := HS.out; omega)
      have kf2 : wr.frozen? ⟨g, 0, none⟩ = false := frozen_of (hst.grown.block g (by have := HS.out; omega) (fun e => by have := HS.out; cases e; omega)) kf
      obtain ⟨ad, cap2, rfl⟩ := owns_slice hst.row
      have o2 := hst.cell
      have of2 := hst.fz
      have hel := el_of_row hst.row
      have hgo : ¬ g = ob := by have := HS.out; omega
      have hog : ¬ ob = g := by have := HS.out; omega
      cases ht : f.there with
      | false =>
        rw [ht] at g0
        have HB : Keep (LayPost6C ts p f w (.returned (.agg #[.slice ad (offP ts p).length cap2])) (wr.setCell ⟨g, 0, none⟩ (.slice ad (offP ts p).length cap2))) := ⟨⟨ad, cap2, offP ts p, rfl, by unfold LayRel; rw [if_neg (by rw [ht]; simp)], (hel.grown (row := some g) (grown_set0 wr g 0 _) (fun j _ hj _ e => by have := HS.out; cases e; omega)).mono (show w.heap.size ≤ W.heap.size by have := HS.out; omega), hbr.setCell (p := ⟨g, 0, none⟩) (by have := HS.out; show _ ≤ g; omega) _, Nat.le_trans offP_len (by omega), row_room hst.row⟩⟩
        clear hel hst hbr
        generalize offP ts p = us at *
        go_wp2
        refine bodyPost_ret (v := .agg #[.slice ad us.length cap2]) ?_ rfl HB.out
        go_light
        simp [results, Try.results24, go_sem, k2]
      | true =>
        rw [ht] at g0
        have hset := l5SetC_any ad cap2 (offP ts p) ⟨p, f.text, f.runs⟩ wr hel.es (Nat.le_trans offP_len (by omega)) (offP_asc hA)
        have hol : (offP ts p).length ≤ ts.length := offP_len
        have HST : Keep (OutSt ob W (.slice ad (offP ts p).length cap2) (offP ts p) wr) := ⟨hst⟩
        clear hel hst
        go_wp2_with fail
        refine hset.mono ?_
        rintro e w3 ⟨ad3, cap3, us, rfl, hrel, hel3, hb3, hus, hrm3⟩
        replace k2 := cell_later hb3 k2
        replace o2 := cell_later hb3 o2
        replace kf2 : w3.frozen? ⟨g, 0, none⟩ = false := (hb3.frozen (p := ⟨g, 0, none⟩) (World.block_lt_of_cell? wr ⟨g, 0, none⟩ (HST.out.keep k0 (by have := HS.out; omega) (by have := HS.out; omega)))).trans kf2
        replace of2 : w3.frozen? ⟨ob, 0, none⟩ = false := (hb3.frozen (p := ⟨ob, 0, none⟩) HST.out.size).trans of2
        have hgw := HST.out.grown.size
        have h31 := hel3.grown (row := some ob) (grown_set0 w3 ob 0 (.slice ad3 us.length cap3)) (fun j _ hj _ e => by have := HS.out; cases e; omega)
        have h32 := h31.grown (row := some g) (grown_set0 _ g 0 (.slice ad3 us.length cap3)) (fun j _ hj _ e => by have := HS.out; cases e; omega)
        have hb4 := ((hbr.trans (hb3.mono hbr.size)).setCell (p := ⟨ob, 0, none⟩) (by have := HS.out; show _ ≤ ob; omega) (.slice ad3 us.length cap3)).setCell (p := ⟨g, 0, none⟩) (by have := HS.out; show _ ≤ g; omega) (.slice ad3 us.length cap3)
        have HB : Keep (LayPost6C ts p f w (.returned (.agg #[.slice ad3 us.length cap3])) ((w3.setCell ⟨ob, 0, none⟩ (.slice ad3 us.length cap3)).setCell ⟨g, 0, none⟩ (.slice ad3 us.length cap3))) := ⟨⟨ad3, cap3, us, rfl, by unfold LayRel; rw [if_pos ht]; exact hrel, h32.mono (show w.heap.size ≤ wr.heap.size by have := HS.out; omega), hb4, by omega, hrm3⟩⟩
        clear hel3 h31 h32 hb4 hb3 hset hbr HST
        go_wp2
        refine bodyPost_ret (v := .agg #[.slice ad3 us.length cap3]) ?_ rfl HB.out
        go_light
        simp [results, Try.results24, go_sem, k2]
theorem l6Lay_any (a : Option Addr) (cap : Nat) (ts : List En) (p : ByteArray) (f : Fl) (w : World) (hts : ES w a ts) (hn : ts.length ≤ 1000000) (hA : Asc ts) :
    Calls Try.prog 24 #[.agg #[.slice a ts.length cap], .string p, .agg #[.bool f.there, .string f.text, .bool f.runs]] w fun e w' => LayPost6 ts p f w e w' :=
  (l6LayC_any a cap ts p f w hts hn hA).mono (fun _ _ ⟨ad, cp, us, h1, h2, h3, h4, h5, _⟩ => ⟨ad, cp, us, h1, h2, h3, h4, h5⟩)
end Go.Proofs.Ytjlflmbifeocbaa

namespace Go.Proofs.Ytjlflmbifeocbaa
open Go.RowKit

def yTab (P C K : Value) (tb b1 o : Nat) (s : ByteArray) (f : Fl) : Nat → Option Value
  | 0 => some P
  | 1 => some (.pointer (some ⟨tb, 0, none⟩))
  | 2 => some C
  | 3 => some K
  | 4 => some (.pointer (some ⟨b1, o, none⟩))
  | 5 => some (.pointer (some ⟨b1, o, none⟩))
  | 6 => some (.string s)
  | 7 => some (.pointer (some ⟨tb, 0, none⟩))
  | 8 => some C
  | 9 => some K
  | 10 => some (.pointer (some ⟨b1, o, none⟩))
  | 11 => some (.pointer (some ⟨b1, o + 4, none⟩))
  | 12 => some (.agg #[.bool f.there, .string f.text, .bool f.runs])
  | _ => none
def yDs : List Nat := [50, 51, 52, 53, 54, 55, 56, 57, 58, 59, 60, 61, 62, 63, 1000]
theorem yNd : yDs.Nodup := by decide

structure YV (T0 : Array Value) (X : World) (P C K : Value) (tb b1 o : Nat) (us : List En) (s : ByteArray) (f : Fl) (E : World → Prop) (L : Array Bool) (a : Act) (w : World) : Prop where
  sl : Sl2 T0 yDs (yTab P C K tb b1 o s f) L a
  w0 : L.getD 13 false = false → w = X.drew
  w1 : L.getD 13 false = true → L.getD 14 false = false → ∃ ad cap vs, a.eval (.tmp 63) = .agg #[.slice ad vs.length cap] ∧ LayRel us s f vs ∧ EL X.heap.size w ad vs ∧ Below X.heap.size X w ∧ vs.length ≤ us.length + 1
  w3 : L.getD 14 false = true → E w

theorem YV.step {T0 : Array Value} {X : World} {P C K : Value} {tb b1 o : Nat} {us : List En} {s : ByteArray} {f : Fl} {E : World → Prop} {L : Array Bool} {a : Act} {w : World} (h : YV T0 X P C K tb b1 o us s f E L a w) {i : Nat} {u : Value} (hT : T0.size = 69) (hi : i < 13) (ht : yTab P C K tb b1 o s f i = some u) :
    YV T0 X P C K tb b1 o us s f E (L.setIfInBounds i true) (a.put (some (50 + i)) u) w := by
  have hlen : i < yDs.length := by show i < 15; omega
  have hds : yDs[i] = 50 + i := by
    match i, hi with
    | 0, _ | 1, _ | 2, _ | 3, _ | 4, _ | 5, _ | 6, _ | 7, _ | 8, _ | 9, _ | 10, _ | 11, _ | 12, _ => rfl
  have hsl := h.sl.put yNd hlen (by rw [hds, hT]; omega) (v := u) (fun u' hu => by rw [ht] at hu; cases hu; rfl)
  rw [hds] at hsl
  have ev : ∀ k, k ≠ 50 + i → (a.put (some (50 + i)) u).eval (.tmp k) = a.eval (.tmp k) := fun k hk => Act.eval_put (fun d hd' => by cases hd'; intro e'; injection e' with e'; exact hk e')
  refine ⟨hsl, fun h1 => ?_, fun h1 h2 => ?_, fun h1 => ?_⟩
  · rw [getD_set_ne false (by omega)] at h1; exact h.w0 h1
  · rw [getD_set_ne false (by omega)] at h1; rw [getD_set_ne false (by omega)] at h2
    obtain ⟨ad, cap, vs, e1, e2⟩ := h.w1 h1 h2
    exact ⟨ad, cap, vs, by rw [ev 63 (by omega)]; exact e1, e2⟩
  · rw [getD_set_ne false (by omega)] at h1; exact h.w3 h1
theorem YV.call {T0 : Array Value} {X : World} {P C K : Value} {tb b1 o : Nat} {us : List En} {s : ByteArray} {f : Fl} {E : World → Prop} {L : Array Bool} {a : Act} {w w' : World} (h : YV T0 X P C K tb b1 o us s f E L a w) (hT : T0.size = 69) (hL : L.getD 13 true = false) (h14 : L.getD 14 false = false) {ad : Option Addr} {cap : Nat} {vs : List En}
    (e2 : LayRel us s f vs) (e3 : EL X.heap.size w' ad vs) (e4 : Below X.heap.size X w') (e5 : vs.length ≤ us.length + 1) :
    YV T0 X P C K tb b1 o us s f E (L.setIfInBounds 13 true) (a.put (some 63) (.agg #[.slice ad vs.length cap])) w' := by
  have g13 : (L.setIfInBounds 13 true).getD 13 false = true := by
    have h1 := getD_false hL
    have h2 : 13 < L.size := by simpa using (List.getElem?_eq_some_iff.1 h1).1
    rw [Array.getD_eq_getD_getElem?, Array.getElem?_setIfInBounds_self_of_lt h2]
    rfl
  refine ⟨h.sl.put (i := 13) yNd (by decide) (show 63 < _ by rw [hT]; omega) (fun u hu => by cases hu), fun h1 => ?_, fun _ _ => ⟨ad, cap, vs, ?_, e2, e3, e4, e5⟩, fun h1 => ?_⟩
  · rw [g13] at h1; cases h1
  · show ((a.tmps.setIfInBounds 63 _).getD 63 undef) = _
    rw [Array.getD_eq_getD_getElem?, Array.getElem?_setIfInBounds_self_of_lt (by rw [h.sl.sz, hT]; omega)]
    rfl
  · rw [getD_set_ne false (by omega), h14] at h1; cases h1
theorem YV.last {T0 : Array Value} {X : World} {P C K : Value} {tb b1 o : Nat} {us : List En} {s : ByteArray} {f : Fl} {E : World → Prop} {L : Array Bool} {a : Act} {w w' : World} (h : YV T0 X P C K tb b1 o us s f E L a w) (h13 : L.getD 13 false = true) (hL : L.getD 14 true = false) (hE : E w') :
    YV T0 X P C K tb b1 o us s f E (L.setIfInBounds 14 true) a w' := by
  have g14 : (L.setIfInBounds 14 true).getD 14 false = true := by
    have h1 := getD_false hL
    have h2 : 14 < L.size := by simpa using (List.getElem?_eq_some_iff.1 h1).1
    rw [Array.getD_eq_getD_getElem?, Array.getElem?_setIfInBounds_self_of_lt h2]
    rfl
  refine ⟨h.sl.skip rfl, fun h1 => ?_, fun _ h2 => ?_, fun _ => hE⟩
  · rw [getD_set_ne false (by omega), h13] at h1; cases h1
  · rw [g14] at h2; cases h2
end Go.Proofs.Ytjlflmbifeocbaa

namespace Go.Proofs.Ytjlflmbifeocbaa
open Go.RowKit

theorem frozen_blk {w w' : World} {g j : Nat} (h : w'.heap[g]? = w.heap[g]?) (hf : w.frozen? ⟨g, j, none⟩ = false) : w'.frozen? ⟨g, j, none⟩ = false := by
  unfold World.frozen? at hf ⊢
  simp only at hf ⊢
  rw [h]; exact hf
theorem ecells_len (us : List En) : (ecells us).length = us.length * 3 := by
  induction us with
  | nil => rfl
  | cons e us ih =>
    have hs : ecells (e :: us) = .string e.path :: .string e.text :: .bool e.runs :: ecells us := by simp [ecells, ecell]
    rw [hs]
    simp [ih]
    omega
theorem es_news {w : World} {b off : Nat} {ts : List En} (h : ∀ i (h : i < ts.length), w.cell? ⟨b, off + i * 3, none⟩ = some (.string ts[i].path) ∧ w.cell? ⟨b, off + i * 3 + 1, none⟩ = some (.string ts[i].text) ∧ w.cell? ⟨b, off + i * 3 + 2, none⟩ = some (.bool ts[i].runs)) :
    ∀ j u, (ecells ts)[j]? = some u → w.cell? ((⟨b, off, none⟩ : Addr).add j) = some u := fun j u hu => by
  have hl := (List.getElem?_eq_some_iff.1 hu).1
  rw [ecells_len] at hl
  have hi : j / 3 < ts.length := by omega
  obtain ⟨h0, h1, h2⟩ := h _ hi
  obtain ⟨e0, e1, e2⟩ := ecells_at ts _ hi
  rw [Go.WideShapes.add_plain]
  have hr : j % 3 = 0 ∨ j % 3 = 1 ∨ j % 3 = 2 := by omega
  rcases hr with hr | hr | hr
  · rw [show j / 3 * 3 = j by omega] at h0 e0
    rw [h0, ← e0, hu]
  · rw [show off + j / 3 * 3 + 1 = off + j by omega] at h1
    rw [show j / 3 * 3 + 1 = j by omega] at e1
    rw [h1, ← e1, hu]
  · rw [show off + j / 3 * 3 + 2 = off + j by omega] at h2
    rw [show j / 3 * 3 + 2 = j by omega] at e2
    rw [h2, ← e2, hu]
theorem ecells_one (us : List En) : ∀ u ∈ ecells us, u.oneCell' = true := fun u hu => by
  obtain ⟨e, _, h⟩ := List.mem_flatMap.1 hu
  exact one_3 e u h
theorem own_none (w : World) (B : Nat) (hB : B ≤ w.heap.size) : (w.alloc (.cells #[] 57)).ownsRow B 57 3 (.slice (some ⟨w.heap.size, 0, none⟩) 0 0) 0 (ecells []) :=
  ⟨by simp [ecells], .inr ⟨w.heap.size, 0, #[], rfl, hB, heap_alloc_new w _, Nat.le_refl _, by unfold maxLen; omega, rfl, by simp [ecells]⟩⟩

set_option maxRecDepth 20000 in
set_option maxHeartbeats 2000000 in
theorem l5Copy_any (b : Option Addr) (cb : Nat) (bs : List En) (w : World) (hbs : ES w b bs) (hn : bs.length ≤ 1048576) (hb : (∃ ad, b = some ad) ∨ (b = none ∧ cb = 0)) :
    Calls Try.prog 51 #[.agg #[.slice b bs.length cb]] w fun e w' => TreeQ bs w.heap.size e w' ∧ Below w.heap.size w w' := by
  obtain ⟨i0, hi, hz0, hz1, hzb⟩ := info_parts Try.infoEntry
  have hal : Below w.heap.size w (((w.alloc (.cells #[.slice b bs.length cb] 25)).alloc (.cells #[.slice none 0 0] 25)).alloc (.cells #[] 57)) := (((Below.refl _ _).alloc (Nat.le_refl _) _).alloc (by simp) _).alloc (by simp; omega) _
  have k0 : (((w.alloc (.cells #[.slice b bs.length cb] 25)).alloc (.cells #[.slice none 0 0] 25)).alloc (.cells #[] 57)).cell? ⟨w.heap.size + 1, 0, none⟩ = some (.slice none 0 0) := by simp [go_sem]
  have kf : (((w.alloc (.cells #[.slice b bs.length cb] 25)).alloc (.cells #[.slice none 0 0] 25)).alloc (.cells #[] 57)).frozen? ⟨w.heap.size + 1, 0, none⟩ = false := by simp [go_sem]
  have m0 : (((w.alloc (.cells #[.slice b bs.length cb] 25)).alloc (.cells #[.slice none 0 0] 25)).alloc (.cells #[] 57)).cell? ⟨w.heap.size, 0, none⟩ = some (.slice b bs.length cb) := by simp [go_sem]
  have hown0 : (((w.alloc (.cells #[.slice b bs.length cb] 25)).alloc (.cells #[.slice none 0 0] 25)).alloc (.cells #[] 57)).ownsRow (w.heap.size + 2) 57 3 (.slice (some ⟨w.heap.size + 1 + 1, 0, none⟩) 0 0) 0 (ecells []) := by simpa using own_none ((w.alloc (.cells #[.slice b bs.length cb] 25)).alloc (.cells #[.slice none 0 0] 25)) (w.heap.size + 2) (by simp)
  have hsz : w.heap.size + 3 ≤ (((w.alloc (.cells #[.slice b bs.length cb] 25)).alloc (.cells #[.slice none 0 0] 25)).alloc (.cells #[] 57)).heap.size := by simp
  rcases hb with ⟨ad, rfl⟩ | ⟨rfl, rfl⟩
  · have hnews : ∃ ad', ∀ n c, (Value.slice (some ad) bs.length c = .slice (some ad) n c → True) ∧ ad' = ad ∧ ∀ j u, (ecells bs)[j]? = some u → (((w.alloc (.cells #[.slice (some ad) bs.length cb] 25)).alloc (.cells #[.slice none 0 0] 25)).alloc (.cells #[] 57)).cell? (ad.add j) = some u := by
      refine ⟨ad, fun _ _ => ⟨fun _ => trivial, rfl, ?_⟩⟩
      rcases hbs with rfl | ⟨bb, off, h, hc⟩
      · intro j u hu; simp [ecells] at hu
      · cases h
        exact es_news (fun i hi => ⟨cell_later hal (hc i hi).1, cell_later hal (hc i hi).2.1, cell_later hal (hc i hi).2.2⟩)
    obtain ⟨_, h3⟩ := hnews
    obtain ⟨_, _, hnw⟩ := h3 0 0
    clear h3
    have hone := ecells_one bs
    have hlen := ecells_len bs
    go_enter Try.func51, Try.ntmps51
    go_wp2_with (first | (at_builtin; refine wpList_append_own _ rfl _ _ 23 rfl (w.heap.size + 2) 57 i0 _ 3 40 Try.underlying23 hi hz0 hz1 hzb rfl (by decide) (.slice (some ⟨w.heap.size + 1 + 1, 0, none⟩) 0 0) 0 (ecells []) rfl hown0 ad bs.length cb (ecells bs) rfl hlen hnw hone (by unfold maxLen; omega) (by omega) (by omega) ?_; intro v2 w2 hown2 hgrow2 _; have k2 := hgrow2.cell (a := ⟨w.heap.size + 1, 0, none⟩) k0 (by simp [Value.ownBlock]); have kf2 : w2.frozen? ⟨w.heap.size + 1, 0, none⟩ = false := frozen_blk (hgrow2.block (w.heap.size + 1) (by simp) (by simp [Value.ownBlock])) kf; obtain ⟨ad2, cp2, rfl⟩ := owns_slice hown2))
    have hb2 := hal.grown hgrow2 hal.size (fun j hj => by cases hj; simp; omega)
    replace hown2 : w2.ownsRow (w.heap.size + 2) 57 3 (.slice ad2 bs.length cp2) bs.length (ecells bs) := by simpa [ecells] using hown2
    have hel := el_of_row hown2
    have hel2 : EL w.heap.size (w2.setCell ⟨w.heap.size + 1, 0, none⟩ (.slice ad2 bs.length cp2)) ad2 bs := (hel.grown (row := some (w.heap.size + 1)) (grown_set0 w2 (w.heap.size + 1) 0 (.slice ad2 bs.length cp2)) (fun j _ hj _ e => by cases e; omega)).mono (by omega)
    refine bodyPost_ret (v := .agg #[.slice ad2 bs.length cp2]) ?_ rfl ⟨⟨ad2, cp2, rfl, hel2⟩, hb2.setCell (p := ⟨w.heap.size + 1, 0, none⟩) (by simp) _⟩
    go_light
    simp [results, Try.results51, go_sem, k2]
  · obtain rfl : bs = [] := by
      rcases hbs with h | ⟨bb, off, h, _⟩
      · exact h
      · cases h
    go_enter Try.func51, Try.ntmps51
    go_wp2_with (first | (at_builtin; refine wpList_append_own_none rfl _ _ 23 rfl (w.heap.size + 2) 57 i0 3 Try.underlying23 hi _ _ _ rfl hown0 rfl ?_))
    refine bodyPost_ret (v := .agg #[.slice (some ⟨w.heap.size + 1 + 1, 0, none⟩) ([] : List En).length 0]) ?_ rfl ⟨⟨_, _, rfl, EL.nil _ _ _⟩, (((Below.refl _ _).alloc (Nat.le_refl _) _).alloc (by simp) _).alloc (by simp; omega) _⟩
    go_light
    simp [results, Try.results51, go_sem]
end Go.Proofs.Ytjlflmbifeocbaa

namespace Go.Proofs.Ytjlflmbifeocbaa
open Go.RowKit

/-- A row of texts that is owned, cell by cell. -/
theorem own_cell {w : World} {B : Nat} {ad : Option Addr} {cp : Nat} {ss : List ByteArray} (h : w.ownsRow B 9 1 (.slice ad ss.length cp) ss.length (ss.map .string)) (k : Nat) (hk : k < ss.length) :
    ∃ b, ad = some ⟨b, 0, none⟩ ∧ w.cell? ⟨b, k, none⟩ = some (.string ss[k]) := by
  rcases h.2 with ⟨h1, h2⟩ | ⟨g, cap, cur, hv, h1, h2, h3, h4, h5, h6⟩
  · omega
  · cases hv
    refine ⟨g, rfl, ?_⟩
    rw [World.ownsRow.cellAt h k (by omega)]
    simp [hk]

theorem l1In_any (n a b : Int) (w : World) :
    Calls Try.prog 79 #[.int .i64 n, .int .i64 a, .int .i64 b] w fun e w' => e = .returned (.bool (decide (a ≤ n) && decide (n ≤ b))) ∧ w = w' := by
  by_cases h1 : a ≤ n
  · by_cases h2 : n ≤ b
    · go_enter Try.func79, Try.ntmps79
      go_wp2
      go_ret
      exact ⟨by simp [h1, h2], rfl⟩
    · go_enter Try.func79, Try.ntmps79
      go_wp2
      go_ret
      exact ⟨by simp [h2], rfl⟩
  · go_enter Try.func79, Try.ntmps79
    go_wp2
    go_ret
    exact ⟨by have : ¬ a ≤ n := by omega
              simp [this], rfl⟩

def pOf (g : Bool) : Int → Bool := if g = true then globB else pathB

theorem pOf_low {g : Bool} {c : Int} (h : c < 33) : pOf g c = false := by
  have : ¬ 33 ≤ c := by omega
  cases g <;> simp [pOf, pathB, globB, this]
theorem pOf_high {g : Bool} {c : Int} (h : 126 < c) : pOf g c = false := by
  have : ¬ c ≤ 126 := by omega
  cases g <;> simp [pOf, pathB, globB, this]
theorem pOf_47 {g : Bool} {c : Int} (h : (c == 47) = true) : pOf g c = false := by
  cases g <;> simp [pOf, pathB, globB, h]
theorem pOf_34 {g : Bool} {c : Int} (h : (c == 34) = true) : pOf g c = false := by
  cases g <;> simp [pOf, pathB, globB, h]
theorem pOf_42 {c : Int} (h : (c == 42) = true) : pOf false c = false := by simp [pOf, pathB, h]
theorem pOf_63 {c : Int} (h : (c == 63) = true) : pOf false c = false := by simp [pOf, pathB, h]
theorem pOf_glob {c : Int} (h1 : ¬ c < 33) (h2 : ¬ 126 < c) (h3 : (c == 47) = false) (h4 : (c == 34) = false) : pOf true c = true := by
  have a1 : 33 ≤ c := by omega
  have a2 : c ≤ 126 := by omega
  simp [pOf, globB, a1, a2, h3, h4]
theorem pOf_path {c : Int} (h1 : ¬ c < 33) (h2 : ¬ 126 < c) (h3 : (c == 47) = false) (h4 : (c == 34) = false) (h5 : (c == 42) = false) (h6 : (c == 63) = false) : pOf false c = true := by
  have a1 : 33 ≤ c := by omega
  have a2 : c ≤ 126 := by omega
  simp [pOf, pathB, globB, a1, a2, h3, h4, h5, h6]

def PkPost (g : Bool) (s : ByteArray) (w : World) (e : Ending) (w' : World) : Prop := e = .returned (.bool (partOk (pOf g) s)) ∧ w = w'

set_option maxRecDepth 100000 in
set_option maxHeartbeats 4000000 in
theorem l4PartOk_any (g : Bool) (s : ByteArray) (w : World) :
    Calls Try.prog 74 #[.string s, .bool g] w fun e w' => PkPost g s w e w' := by
  by_cases h1 : (decide ((1 : Int) ≤ s.size) && decide ((s.size : Int) ≤ 20)) = false
  · go_enter Try.func74, Try.ntmps74
    go_wp2_with (go_at_call 79; refine (l1In_any _ _ _ _).mono ?_; rintro e w' ⟨rfl, rfl⟩; rw [h1])
    go_ret
    refine ⟨retB ?_, rfl⟩
    by_cases a : 1 ≤ s.size
    · have b : ¬ s.size ≤ 20 := by
        intro b
        have a' : (1 : Int) ≤ s.size := by omega
        have b' : (s.size : Int) ≤ 20 := by omega
        simp [a', b'] at h1
      simp [partOk, b]
    · simp [partOk, a]
  have h1' : (decide ((1 : Int) ≤ s.size) && decide ((s.size : Int) ≤ 20)) = true := by simpa using h1
  clear h1
  by_cases h3 : s.toList = [46]
  · go_enter Try.func74, Try.ntmps74
    go_wp2_with (go_at_call 79; refine (l1In_any _ _ _ _).mono ?_; rintro e w' ⟨rfl, rfl⟩; rw [h1'])
    go_ret
    exact ⟨retB (by simp [partOk, h3]), rfl⟩
  by_cases h4 : s.toList = [46, 46]
  · go_enter Try.func74, Try.ntmps74
    go_wp2_with (go_at_call 79; refine (l1In_any _ _ _ _).mono ?_; rintro e w' ⟨rfl, rfl⟩; rw [h1'])
    go_ret
    exact ⟨retB (by simp [partOk, h4]), rfl⟩
  have hall : partOk (pOf g) s = s.data.toList.all (fun c => pOf g (c.toNat : Int)) := by
    simp only [Bool.and_eq_true, decide_eq_true_eq] at h1'
    have a1 : 1 ≤ s.size := by omega
    have a2 : s.size ≤ 20 := by omega
    simp [partOk, a1, a2, h3, h4]
  have HA : Keep (partOk (pOf g) s = s.data.toList.all (fun c => pOf g (c.toNat : Int))) := ⟨hall⟩
  have hb3 : (s.toList == [46]) = false := by simp [h3]
  have hb4 : (s.toList == [46, 46]) = false := by simp [h4]
  have hs : s.size ≤ 20 := by simp at h1'; omega
  clear h3 h4 hall
  go_enter Try.func74, Try.ntmps74
  go_wp2_with (go_at_call 79; refine (l1In_any _ _ _ _).mono ?_; rintro e w' ⟨rfl, rfl⟩; rw [h1'])
  clear h1'
  go_loopw [5] (fun i wr => ∃ k : Nat, i = .int .i64 k ∧ w = wr ∧ okTo (pOf g) s k ∧ k ≤ s.size) (fun i _ => s.size - (intOf i).toNat)
  case atStart => exact ⟨0, rfl, rfl, fun k _ hk => absurd hk (by omega), Nat.zero_le _⟩
  case round =>
    obtain ⟨k, rfl, rfl, hok, hks⟩ := hrel
    by_cases hlt : k < s.size
    · have hlt' : (k : Int) < s.size := by omega
      by_cases a1 : (s[k].toNat : Int) < 33
      · go_wp2
        go_ret
        exact ⟨retB (by rw [HA.out, all_not _ s k hlt (pOf_low a1)]), rfl⟩
      by_cases a2 : 126 < (s[k].toNat : Int)
      · go_wp2
        go_ret
        exact ⟨retB (by rw [HA.out, all_not _ s k hlt (pOf_high a2)]), rfl⟩
      cases a3 : ((s[k].toNat : Int) == 47) with
      | true =>
        go_wp2
        go_ret
        exact ⟨retB (by rw [HA.out, all_not _ s k hlt (pOf_47 a3)]), rfl⟩
      | false =>
        cases a4 : ((s[k].toNat : Int) == 34) with
        | true =>
          go_wp2
          go_ret
          exact ⟨retB (by rw [HA.out, all_not _ s k hlt (pOf_34 a4)]), rfl⟩
        | false =>
          have hon : ∀ h : pOf g (s[k].toNat : Int) = true, okTo (pOf g) s (k + 1) := fun h j hj hlt => by
            by_cases e : j = k
            · subst e; exact h
            · exact hok j hj (by omega)
          cases g with
          | true =>
            have hok2 := hon (pOf_glob a1 a2 a3 a4)
            clear hon
            go_wp2
            go_roundw
            case rel => exact ⟨k + 1, by congr 1, trivial, hok2, by omega⟩
            case measure => simp only [intOf]; omega
          | false =>
            cases a5 : ((s[k].toNat : Int) == 42) with
            | true =>
              clear hon
              go_wp2
              go_ret
              exact ⟨retB (by rw [HA.out, all_not _ s k hlt (pOf_42 a5)]), rfl⟩
            | false =>
              cases a6 : ((s[k].toNat : Int) == 63) with
              | true =>
                clear hon
                go_wp2
                go_ret
                exact ⟨retB (by rw [HA.out, all_not _ s k hlt (pOf_63 a6)]), rfl⟩
              | false =>
                have hok2 := hon (pOf_path a1 a2 a3 a4 a5 a6)
                clear hon
                go_wp2
                go_roundw
                case rel => exact ⟨k + 1, by congr 1, trivial, hok2, by omega⟩
                case measure => simp only [intOf]; omega
    · have hk : k = s.size := by omega
      have HO : Keep (s.data.toList.all (fun c => pOf g (c.toNat : Int)) = true) := ⟨all_okTo _ s (hk ▸ hok)⟩
      clear hok hk
      go_wp2
      go_ret
      exact ⟨retB (by rw [HA.out, HO.out]), rfl⟩

theorem pathOk_long {p : Int → Bool} {s : ByteArray} (h : 126 < s.size) : pathOk p s = false := by
  cases e : pathOk p s with
  | false => rfl
  | true => have := pathOk_size e; omega

def OkPost (g : Bool) (s : ByteArray) (w : World) (e : Ending) (w' : World) : Prop :=
  e = .returned (.bool (pathOk (pOf g) s)) ∧ Below w.heap.size w w'

set_option maxRecDepth 100000 in
set_option maxHeartbeats 4000000 in
theorem l4Ok_any (g : Bool) (s : ByteArray) (w : World) :
    Calls Try.prog 60 #[.string s, .bool g] w fun e w' => OkPost g s w e w' := by
  by_cases h1 : 126 < (s.size : Int)
  · go_enter Try.func60, Try.ntmps60
    go_wp2
    go_ret
    exact ⟨retB (pathOk_long (by omega)).symm, Below.refl _ _⟩
  have hcall := l4Parts_any s (by omega) w
  by_cases h2 : (6 : Int) < (partsB s).length
  · go_enter Try.func60, Try.ntmps60
    go_wp2_with (go_at_call 73; refine hcall.mono ?_; rintro e w1 ⟨ad, cp, rfl, hown, hb⟩)
    go_ret
    refine ⟨retB ?_, hb⟩
    have : ¬ (partsB s).length ≤ 6 := by omega
    simp [pathOk, this]
  have hall : pathOk (pOf g) s = (partsB s).all (partOk (pOf g)) := by
    have : (partsB s).length ≤ 6 := by omega
    simp [pathOk, this]
  have HA : Keep (pathOk (pOf g) s = (partsB s).all (partOk (pOf g))) := ⟨hall⟩
  clear hall
  generalize partsB s = ps at *
  go_enter Try.func60, Try.ntmps60
  go_wp2_with (go_at_call 73; refine hcall.mono ?_; rintro e w1 ⟨ad, cp, rfl, hown, hb⟩)
  have hcells : ∀ k (h : k < ps.length), ∃ b, ad = some ⟨b, 0, none⟩ ∧ w1.cell? ⟨b, k, none⟩ = some (.string ps[k]) := fun k hk => own_cell hown k hk
  clear hown hcall
  go_loopw [6] (fun i wr => ∃ k : Nat, i = .int .i64 k ∧ w1 = wr ∧ Keep ((ps.take k).all (partOk (pOf g)) = true) ∧ k ≤ ps.length) (fun i _ => ps.length - (intOf i).toNat)
  case atStart => exact ⟨0, rfl, rfl, ⟨by simp⟩, Nat.zero_le _⟩
  case round =>
    obtain ⟨k, rfl, rfl, hok, hks⟩ := hrel
    by_cases hlt : k < ps.length
    · obtain ⟨b, rfl, hc⟩ := hcells k hlt
      have hlt' : (k : Int) < ps.length := by omega
      cases hx : partOk (pOf g) ps[k] with
      | true =>
        go_wp2_with (go_at_call 74; refine (l4PartOk_any g ps[k] _).mono ?_; rintro e w2 ⟨rfl, rfl⟩; rw [hx])
        go_roundw
        case rel => exact ⟨k + 1, by congr 1, trivial, ⟨by rw [List.take_succ_eq_append_getElem hlt, List.all_append, hok.out]; simp [hx]⟩, by omega⟩
        case measure => simp only [intOf]; omega
      | false =>
        go_wp2_with (go_at_call 74; refine (l4PartOk_any g ps[k] _).mono ?_; rintro e w2 ⟨rfl, rfl⟩; rw [hx])
        go_ret
        exact ⟨retB (by rw [HA.out]; symm; rw [List.all_eq_false]; exact ⟨ps[k], List.getElem_mem hlt, by rw [hx]; simp⟩), hb⟩
    · have hk : k = ps.length := by omega
      have HO : Keep (ps.all (partOk (pOf g)) = true) := ⟨by have := hok.out; rw [hk, List.take_length] at this; exact this⟩
      clear hok hk
      go_wp2
      go_ret
      exact ⟨retB (by rw [HA.out, HO.out]), hb⟩

set_option maxHeartbeats 400000 in
theorem specPath_any (s : ByteArray) (w : World) :
    Calls Try.prog 36 #[.string s] w fun e w' => e = .returned (.bool (pathOk pathB s)) ∧ Below w.heap.size w w' := by
  go_enter Try.func36, Try.ntmps36
  go_wp2_with (go_at_call 60; refine (l4Ok_any false s _).mono ?_; rintro e w1 ⟨rfl, hb⟩)
  go_ret
  exact ⟨rfl, hb⟩
end Go.Proofs.Ytjlflmbifeocbaa

namespace Go.Proofs.Ytjlflmbifeocbaa
open Go.RowKit

/-- What stands in front of a change is less, or there is nothing. -/
def prevOk (cs : List Ch) (k : Nat) : Prop := ∀ j, j + 1 = k → ∀ (hj : j < cs.length) (hk : k < cs.length), Op.bytesLess cs[j].path.toList cs[k].path.toList = true

theorem same_iff (f g : Fl) : sameF f g = true ↔ f.there = g.there ∧ f.text.toList = g.text.toList ∧ f.runs = g.runs := by
  simp [sameF, and_assoc]

set_option maxRecDepth 100000 in
set_option maxHeartbeats 4000000 in
theorem specPatch_any (a : Option Addr) (cap : Nat) (cs : List Ch) (w : World) (hcs : CS w a cs) (hn : cs.length ≤ 1048576) :
    Calls Try.prog 46 #[.agg #[.slice a cs.length cap]] w fun e w' => VpPost cs w e w' := by
  have hal : Below w.heap.size w (w.alloc (.cells #[.slice a cs.length cap] 30)) := (Below.refl _ _).alloc (Nat.le_refl _) _
  have m0 : (w.alloc (.cells #[.slice a cs.length cap] 30)).cell? ⟨w.heap.size, 0, none⟩ = some (.slice a cs.length cap) := by simp
  by_cases h200 : (200 : Int) < cs.length
  · go_enter Try.func46, Try.ntmps46
    go_wp2
    go_ret
    exact VpPost.no (fun h => by have := h.1; omega) hal
  go_enter Try.func46, Try.ntmps46
  go_wp2
  generalize w.alloc (.cells #[.slice a cs.length cap] 30) = w0 at *
  go_loopw [3] (fun i wr => ∃ k : Nat, i = .int .i64 k ∧ k ≤ cs.length ∧ Keep (∀ j, j < k → POk cs j) ∧ Below w0.heap.size w0 wr) (fun i _ => cs.length - (intOf i).toNat)
  case atStart => exact ⟨0, rfl, Nat.zero_le _, ⟨fun j hj => by omega⟩, Below.refl _ _⟩
  case round =>
    obtain ⟨k, rfl, hk, hok, hb0⟩ := hrel
    have hb := hal.trans (hb0.mono hal.size)
    have mr := cell_later hb0 m0
    by_cases hlt : k < cs.length
    · have hlt' : (k : Int) < cs.length := by omega
      obtain ⟨b, off, rfl, hc⟩ := (hcs.below hb).at hlt
      obtain ⟨c0, c1, c2, c3, c4, c5, c6⟩ := hc k hlt
      have HPREV : Keep (∀ j (hj : j < cs.length), wr.cell? ⟨b, off + j * 7, none⟩ = some (.string cs[j].path)) := ⟨fun j hj => (hc j hj).1⟩
      clear hc
      have hals : Below wr.heap.size wr (wr.alloc (.cells #[.string cs[k].path, .bool cs[k].old.there, .string cs[k].old.text, .bool cs[k].old.runs, .bool cs[k].new.there, .string cs[k].new.text, .bool cs[k].new.runs] 68)) := (Below.refl _ _).alloc (Nat.le_refl _) _
      have hx : ChAt (wr.alloc (.cells #[.string cs[k].path, .bool cs[k].old.there, .string cs[k].old.text, .bool cs[k].old.runs, .bool cs[k].new.there, .string cs[k].new.text, .bool cs[k].new.runs] 68)) wr.heap.size 0 cs[k] := by simp [ChAt]
      have m2 := cell_later hals mr
      have hbx := hb0.trans (hals.mono hb0.size)
      have HP2 : Keep (∀ j (hj : j < cs.length), (wr.alloc (.cells #[.string cs[k].path, .bool cs[k].old.there, .string cs[k].old.text, .bool cs[k].old.runs, .bool cs[k].new.there, .string cs[k].new.text, .bool cs[k].new.runs] 68)).cell? ⟨b, off + j * 7, none⟩ = some (.string cs[j].path)) := ⟨fun j hj => cell_later hals (HPREV.out j hj)⟩
      go_upto_region 7 with fail
      go_cut [59] (fun v wx => ∃ bl : Bool, v = .bool bl ∧ (bl = false ↔ POk cs k) ∧ Below w0.heap.size w0 wx)
      case first =>
        generalize wr.alloc (.cells #[.string cs[k].path, .bool cs[k].old.there, .string cs[k].old.text, .bool cs[k].old.runs, .bool cs[k].new.there, .string cs[k].new.text, .bool cs[k].new.runs] 68) = w2 at *
        obtain ⟨xp, hxp⟩ : ∃ xp, cs[k].path = xp := ⟨_, rfl⟩
        obtain ⟨ot, hot⟩ : ∃ x, cs[k].old.there = x := ⟨_, rfl⟩
        obtain ⟨ox, hox⟩ : ∃ x, cs[k].old.text = x := ⟨_, rfl⟩
        obtain ⟨orr, hor⟩ : ∃ x, cs[k].old.runs = x := ⟨_, rfl⟩
        obtain ⟨nt, hnt⟩ : ∃ x, cs[k].new.there = x := ⟨_, rfl⟩
        obtain ⟨nx, hnx⟩ : ∃ x, cs[k].new.text = x := ⟨_, rfl⟩
        obtain ⟨nr, hnr⟩ : ∃ x, cs[k].new.runs = x := ⟨_, rfl⟩
        obtain ⟨y0, y1, y2, y3, y4, y5, y6⟩ := hx
        simp only [Nat.zero_add] at y0 y1 y2 y3 y4 y5 y6
        rw [hxp] at y0
        rw [hot] at y1
        rw [hox] at y2
        rw [hor] at y3
        rw [hnt] at y4
        rw [hnx] at y5
        rw [hnr] at y6
        have z0 : ∀ x : Later w2, x.world.cell? ⟨wr.heap.size, 0, none⟩ = some (.string xp) := fun x => cell_later x.kept y0
        have z1 : ∀ x : Later w2, x.world.cell? ⟨wr.heap.size, 1, none⟩ = some (.bool ot) := fun x => cell_later x.kept y1
        have z2 : ∀ x : Later w2, x.world.cell? ⟨wr.heap.size, 2, none⟩ = some (.string ox) := fun x => cell_later x.kept y2
        have z3 : ∀ x : Later w2, x.world.cell? ⟨wr.heap.size, 3, none⟩ = some (.bool orr) := fun x => cell_later x.kept y3
        have z4 : ∀ x : Later w2, x.world.cell? ⟨wr.heap.size, 4, none⟩ = some (.bool nt) := fun x => cell_later x.kept y4
        have z5 : ∀ x : Later w2, x.world.cell? ⟨wr.heap.size, 5, none⟩ = some (.string nx) := fun x => cell_later x.kept y5
        have z6 : ∀ x : Later w2, x.world.cell? ⟨wr.heap.size, 6, none⟩ = some (.bool nr) := fun x => cell_later x.kept y6
        have zT : ∀ x : Later w2, x.world.cell? ⟨w.heap.size, 0, none⟩ = some (.slice (some ⟨b, off, none⟩) cs.length cap) := fun x => cell_later x.kept m2
        have HBX : Keep (Below w0.heap.size w0 w2) := ⟨hbx⟩
        have HCH : Keep (chOk cs[k] = (pathOk pathB xp && flOk ⟨ot, ox, orr⟩ && flOk ⟨nt, nx, nr⟩ && !sameF ⟨ot, ox, orr⟩ ⟨nt, nx, nr⟩)) := ⟨by rw [← hxp, ← hot, ← hox, ← hor, ← hnt, ← hnx, ← hnr]; rfl⟩
        have HXP : Keep (cs[k].path = xp) := ⟨hxp⟩
        have HC1 : ∀ x : Later w2, Calls Try.prog 36 #[.string xp] x.world fun e w'' => e = .returned (.bool (pathOk pathB xp)) ∧ ∃ y : Later w2, w'' = y.world := fun x => Later.call x (specPath_any _ _)
        have HC2 : ∀ x : Later w2, Calls Try.prog 67 #[.agg #[.bool ot, .string ox, .bool orr]] x.world fun e w'' => e = .returned (.bool (flOk ⟨ot, ox, orr⟩)) ∧ ∃ y : Later w2, w'' = y.world := fun x => Later.call x (l6FileOk_any ⟨ot, ox, orr⟩ _)
        have HC3 : ∀ x : Later w2, Calls Try.prog 67 #[.agg #[.bool nt, .string nx, .bool nr]] x.world fun e w'' => e = .returned (.bool (flOk ⟨nt, nx, nr⟩)) ∧ ∃ y : Later w2, w'' = y.world := fun x => Later.call x (l6FileOk_any ⟨nt, nx, nr⟩ _)
        clear hxp hot hox hor hnt hnx hnr y0 y1 y2 y3 y4 y5 y6 c0 c1 c2 c3 c4 c5 c6 m2 m0 mr hbx hals hal hb hb0 hcs
        cases hp : pathOk pathB xp with
        | false =>
          have HNO : Keep (¬ POk cs k) := ⟨fun ⟨_, h, _⟩ => by rw [HCH.out, hp] at h; simp at h⟩
          rw [hp] at HC1
          replace HC1 := Keep.mk HC1
          replace HC2 := Keep.mk HC2
          replace HC3 := Keep.mk HC3
          (haveI := later_any; refine wp_region_later (by kernel_rfl) (by kernel_rfl) ?_; (repeat (go_big_quiet_step (first | (go_at_call 36; exact HC1.out _) | (go_at_call_of 67 ([Value.agg #[Value.bool ot, Value.string ox, Value.bool orr]] : List Value); exact HC2.out _) | (go_at_call_of 67 ([Value.agg #[Value.bool nt, Value.string nx, Value.bool nr]] : List Value); exact HC3.out _)))); refine wpQuiet_nil ?_; intro _ hwq; obtain ⟨xq, hwq2⟩ := hwq; subst hwq2)
          go_wp2_with fail
          go_meet
          case rel => exact ⟨true, rfl, ⟨fun h => (by cases h), fun h => absurd h HNO.out⟩, HBX.out.trans (xq.kept.mono HBX.out.size)⟩
        | true =>
          rw [hp] at HC1
          replace HC1 := Keep.mk HC1
          cases ho : flOk ⟨ot, ox, orr⟩ with
          | false =>
            have HNO : Keep (¬ POk cs k) := ⟨fun ⟨_, h, _⟩ => by rw [HCH.out, hp, ho] at h; simp at h⟩
            rw [ho] at HC2
            replace HC2 := Keep.mk HC2
            replace HC3 := Keep.mk HC3
            (haveI := later_any; refine wp_region_later (by kernel_rfl) (by kernel_rfl) ?_; (repeat (go_big_quiet_step (first | (go_at_call 36; exact HC1.out _) | (go_at_call_of 67 ([Value.agg #[Value.bool ot, Value.string ox, Value.bool orr]] : List Value); exact HC2.out _) | (go_at_call_of 67 ([Value.agg #[Value.bool nt, Value.string nx, Value.bool nr]] : List Value); exact HC3.out _)))); refine wpQuiet_nil ?_; intro _ hwq; obtain ⟨xq, hwq2⟩ := hwq; subst hwq2)
            go_wp2_with fail
            go_meet
            case rel => exact ⟨true, rfl, ⟨fun h => (by cases h), fun h => absurd h HNO.out⟩, HBX.out.trans (xq.kept.mono HBX.out.size)⟩
          | true =>
            rw [ho] at HC2
            replace HC2 := Keep.mk HC2
            cases hw : flOk ⟨nt, nx, nr⟩ with
            | false =>
              have HNO : Keep (¬ POk cs k) := ⟨fun ⟨_, h, _⟩ => by rw [HCH.out, hp, ho, hw] at h; simp at h⟩
              rw [hw] at HC3
              replace HC3 := Keep.mk HC3
              (haveI := later_any; refine wp_region_later (by kernel_rfl) (by kernel_rfl) ?_; (repeat (go_big_quiet_step (first | (go_at_call 36; exact HC1.out _) | (go_at_call_of 67 ([Value.agg #[Value.bool ot, Value.string ox, Value.bool orr]] : List Value); exact HC2.out _) | (go_at_call_of 67 ([Value.agg #[Value.bool nt, Value.string nx, Value.bool nr]] : List Value); exact HC3.out _)))); refine wpQuiet_nil ?_; intro _ hwq; obtain ⟨xq, hwq2⟩ := hwq; subst hwq2)
              go_wp2_with fail
              go_meet
              case rel => exact ⟨true, rfl, ⟨fun h => (by cases h), fun h => absurd h HNO.out⟩, HBX.out.trans (xq.kept.mono HBX.out.size)⟩
            | true =>
              rw [hw] at HC3
              replace HC3 := Keep.mk HC3
              cases hsm : sameF ⟨ot, ox, orr⟩ ⟨nt, nx, nr⟩ with
              | true =>
                have HNO : Keep (¬ POk cs k) := ⟨fun ⟨_, h, _⟩ => by rw [HCH.out, hsm] at h; simp at h⟩
                obtain ⟨h1, h2, h3⟩ := (same_iff _ _).1 hsm
                simp only at h1 h2 h3
                clear hsm
                have h2' : ox = nx := by rw [Lib.toList_data, Lib.toList_data] at h2; exact WideShapes.bytes_inj h2
                clear h2
                subst h1 h2' h3
                (haveI := later_any; refine wp_region_later (by kernel_rfl) (by kernel_rfl) ?_; (repeat (go_big_quiet_step (first | (go_at_call 36; exact HC1.out _) | (go_at_call_of 67 ([Value.agg #[Value.bool ot, Value.string ox, Value.bool orr]] : List Value); exact HC2.out _) | (go_at_call_of 67 ([Value.agg #[Value.bool nt, Value.string nx, Value.bool nr]] : List Value); exact HC3.out _)))); refine wpQuiet_nil ?_; intro _ hwq; obtain ⟨xq, hwq2⟩ := hwq; subst hwq2)
                go_wp2_with fail
                go_meet
                case rel => exact ⟨true, rfl, ⟨fun h => (by cases h), fun h => absurd h HNO.out⟩, HBX.out.trans (xq.kept.mono HBX.out.size)⟩
              | false =>
                have HOK : Keep (chOk cs[k] = true) := ⟨by rw [HCH.out, hp, ho, hw, hsm]; rfl⟩
                have hne : ¬ (ot = nt ∧ ox.toList = nx.toList ∧ orr = nr) := fun h => by
                  have := (same_iff ⟨ot, ox, orr⟩ ⟨nt, nx, nr⟩).2 h
                  rw [hsm] at this
                  cases this
                clear hsm HCH
                by_cases hk0 : k = 0
                · have hkd : decide (0 < k) = false := by simp [hk0]
                  have HYES : Keep (POk cs k) := ⟨⟨hlt, HOK.out, fun j hj => by omega⟩⟩
                  clear hk0
                  by_cases h1 : ot = nt
                  · by_cases h2 : ox.toList = nx.toList
                    · have h3 : ¬ orr = nr := fun h => hne ⟨h1, h2, h⟩
                      have h2' : ox = nx := by rw [Lib.toList_data, Lib.toList_data] at h2; exact WideShapes.bytes_inj h2
                      clear hne h2
                      subst h1 h2'
                      (haveI := later_any; refine wp_region_later (by kernel_rfl) (by kernel_rfl) ?_; (repeat (go_big_quiet_step (first | (go_at_call 36; exact HC1.out _) | (go_at_call_of 67 ([Value.agg #[Value.bool ot, Value.string ox, Value.bool orr]] : List Value); exact HC2.out _) | (go_at_call_of 67 ([Value.agg #[Value.bool ot, Value.string ox, Value.bool nr]] : List Value); exact HC3.out _)))); refine wpQuiet_nil ?_; intro _ hwq; obtain ⟨xq, hwq2⟩ := hwq; subst hwq2)
                      go_wp2_with fail
                      go_meet
                      case rel => exact ⟨false, rfl, ⟨fun _ => HYES.out, fun _ => rfl⟩, HBX.out.trans (xq.kept.mono HBX.out.size)⟩
                    · clear hne
                      subst h1
                      (haveI := later_any; refine wp_region_later (by kernel_rfl) (by kernel_rfl) ?_; (repeat (go_big_quiet_step (first | (go_at_call 36; exact HC1.out _) | (go_at_call_of 67 ([Value.agg #[Value.bool ot, Value.string ox, Value.bool orr]] : List Value); exact HC2.out _) | (go_at_call_of 67 ([Value.agg #[Value.bool ot, Value.string nx, Value.bool nr]] : List Value); exact HC3.out _)))); refine wpQuiet_nil ?_; intro _ hwq; obtain ⟨xq, hwq2⟩ := hwq; subst hwq2)
                      go_wp2_with fail
                      go_meet
                      case rel => exact ⟨false, rfl, ⟨fun _ => HYES.out, fun _ => rfl⟩, HBX.out.trans (xq.kept.mono HBX.out.size)⟩
                  · clear hne
                    (haveI := later_any; refine wp_region_later (by kernel_rfl) (by kernel_rfl) ?_; (repeat (go_big_quiet_step (first | (go_at_call 36; exact HC1.out _) | (go_at_call_of 67 ([Value.agg #[Value.bool ot, Value.string ox, Value.bool orr]] : List Value); exact HC2.out _) | (go_at_call_of 67 ([Value.agg #[Value.bool nt, Value.string nx, Value.bool nr]] : List Value); exact HC3.out _)))); refine wpQuiet_nil ?_; intro _ hwq; obtain ⟨xq, hwq2⟩ := hwq; subst hwq2)
                    go_wp2_with fail
                    go_meet
                    case rel => exact ⟨false, rfl, ⟨fun _ => HYES.out, fun _ => rfl⟩, HBX.out.trans (xq.kept.mono HBX.out.size)⟩
                · obtain ⟨j, rfl⟩ : ∃ j, k = j + 1 := ⟨k - 1, by omega⟩
                  have hpv : ∀ x : Later w2, x.world.cell? ⟨b, off + j * 7, none⟩ = some (.string cs[j].path) := fun x => cell_later x.kept (HP2.out j (by omega))
                  have hk0' : (0 : Int) < ((j + 1 : Nat) : Int) := by omega
                  have hkd : decide (0 < j + 1) = true := by simp
                  have htot := less_total cs[j].path.toList xp.toList
                  have HIFF : Keep (POk cs (j + 1) ↔ Op.bytesLess cs[j].path.toList xp.toList = true) := ⟨by
                    rw [← HXP.out]
                    constructor
                    · rintro ⟨_, _, h⟩; exact h j rfl (by omega)
                    · intro h
                      refine ⟨hlt, HOK.out, fun i hi hil => ?_⟩
                      obtain rfl : i = j := by omega
                      exact h⟩
                  obtain ⟨pp, hpp⟩ : ∃ pp, cs[j].path = pp := ⟨_, rfl⟩
                  rw [hpp] at hpv htot
                  replace HIFF : Keep (POk cs (j + 1) ↔ Op.bytesLess pp.toList xp.toList = true) := ⟨by rw [← hpp]; exact HIFF.out⟩
                  clear hpp HXP HP2 HPREV HOK hok
                  cases hl : Op.bytesLess pp.toList xp.toList with
                  | true =>
                    have hll : (Op.bytesLess xp.toList pp.toList || xp.toList == pp.toList) = false := by rw [← htot, hl]; rfl
                    have HYES : Keep (POk cs (j + 1)) := ⟨HIFF.out.2 hl⟩
                    clear htot HIFF
                    by_cases h1 : ot = nt
                    · by_cases h2 : ox.toList = nx.toList
                      · have h3 : ¬ orr = nr := fun h => hne ⟨h1, h2, h⟩
                        have h2' : ox = nx := by rw [Lib.toList_data, Lib.toList_data] at h2; exact WideShapes.bytes_inj h2
                        clear hne h2
                        subst h1 h2'
                        (haveI := later_any; refine wp_region_later (by kernel_rfl) (by kernel_rfl) ?_; (repeat (go_big_quiet_step (first | (go_at_call 36; exact HC1.out _) | (go_at_call_of 67 ([Value.agg #[Value.bool ot, Value.string ox, Value.bool orr]] : List Value); exact HC2.out _) | (go_at_call_of 67 ([Value.agg #[Value.bool ot, Value.string ox, Value.bool nr]] : List Value); exact HC3.out _)))); refine wpQuiet_nil ?_; intro _ hwq; obtain ⟨xq, hwq2⟩ := hwq; subst hwq2)
                        go_wp2_with fail
                        go_meet
                        case rel => exact ⟨false, rfl, ⟨fun _ => HYES.out, fun _ => rfl⟩, HBX.out.trans (xq.kept.mono HBX.out.size)⟩
                      · clear hne
                        subst h1
                        (haveI := later_any; refine wp_region_later (by kernel_rfl) (by kernel_rfl) ?_; (repeat (go_big_quiet_step (first | (go_at_call 36; exact HC1.out _) | (go_at_call_of 67 ([Value.agg #[Value.bool ot, Value.string ox, Value.bool orr]] : List Value); exact HC2.out _) | (go_at_call_of 67 ([Value.agg #[Value.bool ot, Value.string nx, Value.bool nr]] : List Value); exact HC3.out _)))); refine wpQuiet_nil ?_; intro _ hwq; obtain ⟨xq, hwq2⟩ := hwq; subst hwq2)
                        go_wp2_with fail
                        go_meet
                        case rel => exact ⟨false, rfl, ⟨fun _ => HYES.out, fun _ => rfl⟩, HBX.out.trans (xq.kept.mono HBX.out.size)⟩
                    · clear hne
                      (haveI := later_any; refine wp_region_later (by kernel_rfl) (by kernel_rfl) ?_; (repeat (go_big_quiet_step (first | (go_at_call 36; exact HC1.out _) | (go_at_call_of 67 ([Value.agg #[Value.bool ot, Value.string ox, Value.bool orr]] : List Value); exact HC2.out _) | (go_at_call_of 67 ([Value.agg #[Value.bool nt, Value.string nx, Value.bool nr]] : List Value); exact HC3.out _)))); refine wpQuiet_nil ?_; intro _ hwq; obtain ⟨xq, hwq2⟩ := hwq; subst hwq2)
                      go_wp2_with fail
                      go_meet
                      case rel => exact ⟨false, rfl, ⟨fun _ => HYES.out, fun _ => rfl⟩, HBX.out.trans (xq.kept.mono HBX.out.size)⟩
                  | false =>
                    have hll : (Op.bytesLess xp.toList pp.toList || xp.toList == pp.toList) = true := by rw [← htot, hl]; rfl
                    have HNO : Keep (¬ POk cs (j + 1)) := ⟨fun h => by have := HIFF.out.1 h; rw [hl] at this; cases this⟩
                    clear htot HIFF
                    by_cases h1 : ot = nt
                    · by_cases h2 : ox.toList = nx.toList
                      · have h3 : ¬ orr = nr := fun h => hne ⟨h1, h2, h⟩
                        have h2' : ox = nx := by rw [Lib.toList_data, Lib.toList_data] at h2; exact WideShapes.bytes_inj h2
                        clear hne h2
                        subst h1 h2'
                        (haveI := later_any; refine wp_region_later (by kernel_rfl) (by kernel_rfl) ?_; (repeat (go_big_quiet_step (first | (go_at_call 36; exact HC1.out _) | (go_at_call_of 67 ([Value.agg #[Value.bool ot, Value.string ox, Value.bool orr]] : List Value); exact HC2.out _) | (go_at_call_of 67 ([Value.agg #[Value.bool ot, Value.string ox, Value.bool nr]] : List Value); exact HC3.out _)))); refine wpQuiet_nil ?_; intro _ hwq; obtain ⟨xq, hwq2⟩ := hwq; subst hwq2)
                        go_wp2_with fail
                        go_meet
                        case rel => exact ⟨true, rfl, ⟨fun h => (by cases h), fun h => absurd h HNO.out⟩, HBX.out.trans (xq.kept.mono HBX.out.size)⟩
                      · clear hne
                        subst h1
                        (haveI := later_any; refine wp_region_later (by kernel_rfl) (by kernel_rfl) ?_; (repeat (go_big_quiet_step (first | (go_at_call 36; exact HC1.out _) | (go_at_call_of 67 ([Value.agg #[Value.bool ot, Value.string ox, Value.bool orr]] : List Value); exact HC2.out _) | (go_at_call_of 67 ([Value.agg #[Value.bool ot, Value.string nx, Value.bool nr]] : List Value); exact HC3.out _)))); refine wpQuiet_nil ?_; intro _ hwq; obtain ⟨xq, hwq2⟩ := hwq; subst hwq2)
                        go_wp2_with fail
                        go_meet
                        case rel => exact ⟨true, rfl, ⟨fun h => (by cases h), fun h => absurd h HNO.out⟩, HBX.out.trans (xq.kept.mono HBX.out.size)⟩
                    · clear hne
                      (haveI := later_any; refine wp_region_later (by kernel_rfl) (by kernel_rfl) ?_; (repeat (go_big_quiet_step (first | (go_at_call 36; exact HC1.out _) | (go_at_call_of 67 ([Value.agg #[Value.bool ot, Value.string ox, Value.bool orr]] : List Value); exact HC2.out _) | (go_at_call_of 67 ([Value.agg #[Value.bool nt, Value.string nx, Value.bool nr]] : List Value); exact HC3.out _)))); refine wpQuiet_nil ?_; intro _ hwq; obtain ⟨xq, hwq2⟩ := hwq; subst hwq2)
                      go_wp2_with fail
                      go_meet
                      case rel => exact ⟨true, rfl, ⟨fun h => (by cases h), fun h => absurd h HNO.out⟩, HBX.out.trans (xq.kept.mono HBX.out.size)⟩
      case rest =>
        obtain ⟨bl, rfl, hbl, hb3⟩ := hcut
        have hbw3 := hal.trans (hb3.mono hal.size)
        cases bl with
        | true =>
          have hbad : ¬ ValidP cs := fun hv => by have := hbl.2 (hv.2 k hlt); cases this
          go_wp2
          go_ret
          exact VpPost.no hbad hbw3
        | false =>
          have HP : Keep (∀ j, j < k + 1 → POk cs j) := ⟨fun j hj => by
            by_cases e : j = k
            · subst e; exact hbl.1 rfl
            · exact hok.out j (by omega)⟩
          clear hbl
          go_wp2
          go_roundw
          case rel => exact ⟨k + 1, by congr 1, hlt, HP, hb3⟩
          case measure => simp only [intOf]; omega
    · obtain rfl : k = cs.length := by omega
      go_wp2
      go_ret
      exact ⟨true, rfl, ⟨fun _ => ⟨by omega, hok.out⟩, fun _ => rfl⟩, hb⟩
end Go.Proofs.Ytjlflmbifeocbaa
