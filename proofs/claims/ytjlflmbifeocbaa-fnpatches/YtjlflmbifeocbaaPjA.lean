/-
  RowR, CmpB, NameP, MrgP, PthE, FrontE, CutE, SideE, FileE, AtS, FilP, NameS, PathS, DiffS, DiffP, RangeI, OrS, RegV, EBx, ChgN, Grow, ImplTree, DiffI, PatI, PatV, PatS, UndoP, UndoI: laid as one text.
-/
import Derived.Test.YtjlflmbifeocbaaOutL
import Derived.Test.YtjlflmbifeocbaaRows
import Derived.WalkKit
import Derived.WalkSpells
import Derived.Lib.Bytealg
import Derived.Laws.Externs
import Derived.Laws.Strings3
import Derived.Test.YtjlflmbifeocbaaSetP
import Derived.Test.YtjlflmbifeocbaaEntL
import Derived.Test.YtjlflmbifeocbaaSplitP
import Derived.Test.YtjlflmbifeocbaaLaterQ
import Derived.Deep.RegionWith
import Derived.Below
import Derived.RangeFuncNested
import Derived.RangeFuncBound
import Derived.RangeFuncCalls
import Derived.RangeFuncLeaves
import Derived.Shelf.Abstract
import Derived.Shelf.RegionOpen
import Derived.OwnWalkIn
import Derived.TacticsInMore
import Derived.LoopNIn
import Derived.LoopIn
import Derived.Sort.CutIn
import Derived.Test.YtjlflmbifeocbaaChangesB
import Derived.Test.YtjlflmbifeocbaaTreeU
import Derived.Test.YtjlflmbifeocbaaStrsB
import Derived.Test.YtjlflmbifeocbaaBase
import Derived.Test.YtjlflmbifeocbaaChOut
import Derived.Test.YtjlflmbifeocbaaPatP
import Derived.Test.YtjlflmbifeocbaaSpecTree
import Derived.Deep.RegionLaw
import Derived.Deep.CutRange
import Derived.RangeFuncFrom
import Derived.WalkLawsBesides
import Derived.Deep.Light
import Derived.OrdersIn
import Derived.Test.YtjlflmbifeocbaaCopyF
import Derived.Test.YtjlflmbifeocbaaTreeP
import Derived.Deep.QuietTactic
import Derived.BigQuiet
import Derived.Deep.DeepCutAuto
import Derived.Test.YtjlflmbifeocbaaChgI
import Derived.Test.YtjlflmbifeocbaaSpecPath
namespace Go.Proofs.Ytjlflmbifeocbaa
open Go.RowKit

theorem row_roomO {W : World} {B z : Nat} {e : TypeId} {ad : Option Addr} {n cp : Nat} {xs : List Value} (h : W.ownsRow B e z (.slice ad n cp) n xs) : n ≤ cp := by
  rcases h.2 with ⟨h0, _⟩ | ⟨_, _, _, h0, _, _, h1, _⟩
  · cases h0; exact Nat.le_refl _
  · cases h0; exact h1
end Go.Proofs.Ytjlflmbifeocbaa

namespace Go.Proofs.Ytjlflmbifeocbaa
open Go.RowKit Go.Lib

set_option maxHeartbeats 1000000 in
set_option maxRecDepth 100000 in
theorem cmpString_any (a b : ByteArray) (w : World) :
    Calls Try.prog 78 #[.string a, .string b] w fun e w' => e = .returned (.int .i64 (Lib.compareBytes a.data.toList b.data.toList)) ∧ w' = w := by
  go_enter Try.func78, Try.ntmps78
  go_wp2
  rw [run_callFunc_extern Try.func83 (by kernel_rfl) (by kernel_rfl) (by kernel_rfl) (e := Extern.BytealgCompare.compare) (by kernel_rfl), Lib.run_compareString]
  simp only [Result.andThen]
  rw [Oper.upon_value]
  go_wp2
  go_ret
  exact ⟨rfl, rfl⟩

set_option maxHeartbeats 1000000 in
theorem compare_any (a b : ByteArray) (w : World) :
    Calls Try.prog 71 #[.string a, .string b] w fun e w' => e = .returned (.int .i64 (Lib.compareBytes a.data.toList b.data.toList)) ∧ w' = w := by
  go_enter Try.func71, Try.ntmps71
  go_wp2_with (go_at_call 78; refine (cmpString_any _ _ _).mono ?_; rintro e w' ⟨rfl, rfl⟩)
  go_ret
  exact ⟨rfl, rfl⟩

theorem compare_neg : ∀ {a b : List UInt8}, Lib.compareBytes a b < 0 ↔ Op.bytesLess a b = true
  | [], [] => by simp [Lib.compareBytes, Op.bytesLess]
  | [], _ :: _ => by simp [Lib.compareBytes, Op.bytesLess]
  | _ :: _, [] => by simp [Lib.compareBytes, Op.bytesLess]
  | x :: a, y :: b => by
    have ih := compare_neg (a := a) (b := b)
    by_cases h : x < y
    · simp [Lib.compareBytes, Op.bytesLess, h]
    · by_cases h2 : y < x
      · have hne : ¬ x = y := fun e => by subst e; exact h h2
        simp [Lib.compareBytes, Op.bytesLess, h, h2, hne]
      · have he : x = y := by
          rw [UInt8.lt_iff_toNat_lt] at h h2
          exact UInt8.toNat_inj.1 (by omega)
        subst he
        simp [Lib.compareBytes, Op.bytesLess, h, ih]

end Go.Proofs.Ytjlflmbifeocbaa

namespace Go.Proofs.Ytjlflmbifeocbaa
open Go.RowKit

def AscN (l : List ByteArray) : Prop := l.Pairwise fun a b => Op.bytesLess a.toList b.toList = true
def stepN (s : ByteArray) (r : List ByteArray × Bool) (x : ByteArray) : List ByteArray × Bool :=
  if r.2 = true then (if (x.toList != s.toList) = true then r.1 ++ [x] else r.1, true)
  else if Op.bytesLess x.toList s.toList = true then (r.1 ++ [x], false)
  else (if (x.toList != s.toList) = true then r.1 ++ [s] ++ [x] else r.1 ++ [s], true)
def foldN (s : ByteArray) (l : List ByteArray) : List ByteArray × Bool := l.foldl (stepN s) ([], false)
theorem foldN_take {s : ByteArray} {ls : List ByteArray} {k : Nat} (hk : k < ls.length) : foldN s (ls.take (k + 1)) = stepN s (foldN s (ls.take k)) ls[k] := by
  unfold foldN
  rw [List.take_succ_eq_append_getElem hk, List.foldl_append]
  rfl
def nameL (ls : List ByteArray) (s : ByteArray) : List ByteArray := if (foldN s ls).2 = true then (foldN s ls).1 else (foldN s ls).1 ++ [s]

theorem ne_toList {x s : ByteArray} : (x.toList != s.toList) = true ↔ x ≠ s := by
  rw [bne_iff_ne]
  constructor
  · intro h e; exact h (by rw [e])
  · intro h e
    rw [Lib.toList_data, Lib.toList_data] at e
    exact h (WideShapes.bytes_inj e)
theorem foldN_len (s : ByteArray) (ls : List ByteArray) : ∀ k, k ≤ ls.length → ((foldN s (ls.take k)).2 = false → (foldN s (ls.take k)).1.length ≤ k) ∧ (foldN s (ls.take k)).1.length ≤ k + 1
  | 0, _ => by simp [foldN]
  | k + 1, hk => by
    obtain ⟨h1, h2⟩ := foldN_len s ls k (by omega)
    rw [foldN_take (by omega)]
    generalize foldN s (ls.take k) = r at *
    unfold stepN
    cases hr : r.2 with
    | true =>
      simp only [if_true]
      refine ⟨fun h => by simp at h, ?_⟩
      split
      · simp; omega
      · show r.1.length ≤ _; omega
    | false =>
      have := h1 hr
      simp only [Bool.false_eq_true, if_false]
      split
      · simp; omega
      · refine ⟨fun h => (by cases h), ?_⟩
        show (if (ls[k].toList != s.toList) = true then r.1 ++ [s] ++ [ls[k]] else r.1 ++ [s]).length ≤ _
        split
        · simp; omega
        · simp; omega
theorem nameL_len (ls : List ByteArray) (s : ByteArray) : (nameL ls s).length ≤ ls.length + 1 := by
  have h := foldN_len s ls ls.length (Nat.le_refl _)
  rw [List.take_length] at h
  unfold nameL
  split
  · omega
  · rename_i h0
    have := h.1 (by simpa using h0)
    simp; omega
/-- How it stands when some are looked through. -/
theorem foldN_inv (s : ByteArray) (ls : List ByteArray) (hA : AscN ls) : ∀ k, k ≤ ls.length →
    ((foldN s (ls.take k)).2 = false → (foldN s (ls.take k)).1 = ls.take k ∧ ∀ x ∈ ls.take k, Op.bytesLess x.toList s.toList = true) ∧
    ((foldN s (ls.take k)).2 = true → AscN (foldN s (ls.take k)).1 ∧ (∀ y, y ∈ (foldN s (ls.take k)).1 ↔ y ∈ ls.take k ∨ y = s) ∧ ∃ z ∈ ls.take k, Op.bytesLess z.toList s.toList = false)
  | 0, _ => by simp [foldN]
  | k + 1, hk => by
    obtain ⟨h1, h2⟩ := foldN_inv s ls hA k (by omega)
    have hk' : k < ls.length := by omega
    have hlt : ∀ z ∈ ls.take k, Op.bytesLess z.toList ls[k].toList = true := fun z hz => by
      obtain ⟨i, hi, rfl⟩ := List.getElem_of_mem hz
      rw [List.getElem_take]
      have hi2 : i < k := by simp at hi; omega
      exact List.pairwise_iff_getElem.1 hA i k (by omega) hk' hi2
    have htk : ∀ y, y ∈ ls.take (k + 1) ↔ y ∈ ls.take k ∨ y = ls[k] := fun y => by
      rw [List.take_succ_eq_append_getElem hk', List.mem_append, List.mem_singleton]
    rw [foldN_take hk']
    generalize foldN s (ls.take k) = r at *
    unfold stepN
    cases hr : r.2 with
    | true =>
      obtain ⟨a1, a2, z, hz, hzs⟩ := h2 hr
      have hsx : Op.bytesLess s.toList ls[k].toList = true := by
        by_cases e : z = s
        · rw [← e]; exact hlt z hz
        · exact less_trans (less_of hzs e) (hlt z hz)
      have hne : (ls[k].toList != s.toList) = true := ne_toList.2 (fun e => by rw [e] at hsx; rw [less_irrefl] at hsx; cases hsx)
      simp only [if_true, hne]
      refine ⟨fun h => by simp at h, fun _ => ⟨?_, fun y => ?_, z, (htk z).2 (.inl hz), hzs⟩⟩
      · refine List.pairwise_append.2 ⟨a1, List.pairwise_singleton _ _, fun y hy x hx => ?_⟩
        rw [List.mem_singleton.1 hx]
        rcases (a2 y).1 hy with h | h
        · exact hlt y h
        · rw [h]; exact hsx
      · rw [List.mem_append, List.mem_singleton, a2, htk]
        constructor
        · rintro ((h | h) | h)
          · exact .inl (.inl h)
          · exact .inr h
          · exact .inl (.inr h)
        · rintro ((h | h) | h)
          · exact .inl (.inl h)
          · exact .inr h
          · exact .inl (.inr h)
    | false =>
      obtain ⟨a1, a2⟩ := h1 hr
      simp only [Bool.false_eq_true, if_false]
      by_cases hl : Op.bytesLess ls[k].toList s.toList = true
      · rw [if_pos hl]
        refine ⟨fun _ => ⟨?_, fun y hy => ?_⟩, fun h => by simp at h⟩
        · show r.1 ++ [ls[k]] = _
          rw [a1, List.take_succ_eq_append_getElem hk']
        · rcases (htk y).1 hy with h | h
          · exact a2 y h
          · rw [h]; exact hl
      · rw [if_neg hl]
        have hl' : Op.bytesLess ls[k].toList s.toList = false := by simpa using hl
        have hs1 : AscN (r.1 ++ [s]) := by
          rw [a1]
          refine List.pairwise_append.2 ⟨hA.sublist (List.take_sublist _ _), List.pairwise_singleton _ _, fun y hy x hx => ?_⟩
          rw [List.mem_singleton.1 hx]; exact a2 y hy
        refine ⟨fun h => by simp at h, fun _ => ?_⟩
        by_cases e : ls[k] = s
        · have hne : (ls[k].toList != s.toList) = false := by rw [e]; simp
          simp only [hne, Bool.false_eq_true, if_false]
          refine ⟨hs1, fun y => ?_, ls[k], (htk _).2 (.inr rfl), hl'⟩
          rw [List.mem_append, List.mem_singleton, a1, htk, e]
          constructor
          · rintro (h | h)
            · exact .inl (.inl h)
            · exact .inr h
          · rintro ((h | h) | h)
            · exact .inl h
            · exact .inr h
            · exact .inr h
        · have hne : (ls[k].toList != s.toList) = true := ne_toList.2 e
          simp only [hne, if_true]
          have hsx := less_of hl' e
          refine ⟨List.pairwise_append.2 ⟨hs1, List.pairwise_singleton _ _, fun y hy x hx => ?_⟩, fun y => ?_, ls[k], (htk _).2 (.inr rfl), hl'⟩
          · rw [List.mem_singleton.1 hx]
            rcases List.mem_append.1 hy with h | h
            · rw [a1] at h; exact hlt y h
            · rw [List.mem_singleton.1 h]; exact hsx
          · rw [List.mem_append, List.mem_append, List.mem_singleton, List.mem_singleton, a1, htk]
            constructor
            · rintro ((h | h) | h)
              · exact .inl (.inl h)
              · exact .inr h
              · exact .inl (.inr h)
            · rintro ((h | h) | h)
              · exact .inl (.inl h)
              · exact .inr h
              · exact .inl (.inr h)
theorem nameL_asc {ls : List ByteArray} {s : ByteArray} (hA : AscN ls) : AscN (nameL ls s) ∧ ∀ y, y ∈ nameL ls s ↔ y ∈ ls ∨ y = s := by
  have h := foldN_inv s ls hA ls.length (Nat.le_refl _)
  rw [List.take_length] at h
  unfold nameL
  split
  · rename_i h0
    exact ⟨(h.2 h0).1, (h.2 h0).2.1⟩
  · rename_i h0
    obtain ⟨a1, a2⟩ := h.1 (by simpa using h0)
    rw [a1]
    refine ⟨List.pairwise_append.2 ⟨hA, List.pairwise_singleton _ _, fun y hy x hx => ?_⟩, fun y => ?_⟩
    · rw [List.mem_singleton.1 hx]; exact a2 y hy
    · rw [List.mem_append, List.mem_singleton]
theorem ascN_unique : ∀ {l m : List ByteArray}, AscN l → AscN m → (∀ e, e ∈ l ↔ e ∈ m) → l = m
  | [], [], _, _, _ => rfl
  | [], y :: m, _, _, h => by have := (h y).2 (by simp); cases this
  | x :: l, [], _, _, h => by have := (h x).1 (by simp); cases this
  | x :: l, y :: m, hl, hm, h => by
    obtain ⟨hx, hl'⟩ := List.pairwise_cons.1 hl
    obtain ⟨hy, hm'⟩ := List.pairwise_cons.1 hm
    have hirr : ∀ z : ByteArray, Op.bytesLess z.toList z.toList ≠ true := fun z e => by rw [less_irrefl] at e; cases e
    have exy : x = y := by
      rcases List.mem_cons.1 ((h x).1 (by simp)) with e | e
      · exact e
      · rcases List.mem_cons.1 ((h y).2 (by simp)) with e' | e'
        · exact e'.symm
        · exact absurd (less_trans (hx y e') (hy x e)) (hirr x)
    subst exy
    rw [ascN_unique hl' hm' (fun e => by
      constructor
      · intro he
        rcases List.mem_cons.1 ((h e).1 (by simp [he])) with h1 | h1
        · rw [h1] at he; exact absurd (hx _ he) (hirr _)
        · exact h1
      · intro he
        rcases List.mem_cons.1 ((h e).2 (by simp [he])) with h1 | h1
        · rw [h1] at he; exact absurd (hy _ he) (hirr _)
        · exact h1)]
end Go.Proofs.Ytjlflmbifeocbaa

namespace Go.Proofs.Ytjlflmbifeocbaa
open Go.RowKit

theorem compare_pos : ∀ {a b : List UInt8}, 0 < Lib.compareBytes a b ↔ Op.bytesLess b a = true
  | [], [] => by simp [Lib.compareBytes, Op.bytesLess]
  | [], _ :: _ => by simp [Lib.compareBytes, Op.bytesLess]
  | _ :: _, [] => by simp [Lib.compareBytes, Op.bytesLess]
  | x :: a, y :: b => by
    have ih := compare_pos (a := a) (b := b)
    by_cases h : x < y
    · have h2 : ¬ y < x := fun e => by rw [UInt8.lt_iff_toNat_lt] at h e; omega
      have hne : ¬ y = x := fun e => by subst e; exact h2 h
      simp [Lib.compareBytes, Op.bytesLess, h, h2, hne]
    · by_cases h2 : y < x
      · simp [Lib.compareBytes, Op.bytesLess, h, h2]
      · have he : x = y := by
          rw [UInt8.lt_iff_toNat_lt] at h h2
          exact UInt8.toNat_inj.1 (by omega)
        subst he
        simp [Lib.compareBytes, Op.bytesLess, h, ih]

def mrg {α β : Type} (pa : α → ByteArray) (pb : β → ByteArray) : Nat → List α → List β → List (ByteArray × Option α × Option β)
  | 0, _, _ => []
  | _ + 1, [], [] => []
  | n + 1, [], y :: us => (pb y, none, some y) :: mrg pa pb n [] us
  | n + 1, x :: ts, [] => (pa x, some x, none) :: mrg pa pb n ts []
  | n + 1, x :: ts, y :: us =>
    if Lib.compareBytes (pa x).data.toList (pb y).data.toList < 0 then (pa x, some x, none) :: mrg pa pb n ts (y :: us)
    else if 0 < Lib.compareBytes (pa x).data.toList (pb y).data.toList then (pb y, none, some y) :: mrg pa pb n (x :: ts) us
    else (pa x, some x, some y) :: mrg pa pb n ts us

/-- What stands under a path. -/
def fnd {α : Type} (pa : α → ByteArray) (ts : List α) (p : ByteArray) : Option α := ts.find? fun x => (pa x).toList == p.toList
def AscK {α : Type} (pa : α → ByteArray) (ts : List α) : Prop := ts.Pairwise fun a b => Op.bytesLess (pa a).toList (pa b).toList = true
theorem eqb_iff {x y : ByteArray} : (x.toList == y.toList) = true ↔ x = y := by
  constructor
  · intro h
    have h1 : x.toList = y.toList := by simpa using h
    rw [Lib.toList_data, Lib.toList_data] at h1
    exact WideShapes.bytes_inj h1
  · intro h; rw [h]; simp
theorem neb_iff {x y : ByteArray} : (x.toList == y.toList) = false ↔ x ≠ y := by
  rw [Bool.eq_false_iff, ne_eq, eqb_iff]
theorem fnd_cons_ne {α : Type} {pa : α → ByteArray} {x : α} {ts : List α} {p : ByteArray} (h : pa x ≠ p) : fnd pa (x :: ts) p = fnd pa ts p := by
  unfold fnd
  rw [List.find?_cons, neb_iff.2 h]
theorem fnd_cons_eq {α : Type} {pa : α → ByteArray} {x : α} {ts : List α} {p : ByteArray} (h : pa x = p) : fnd pa (x :: ts) p = some x := by
  unfold fnd
  rw [List.find?_cons, eqb_iff.2 h]
theorem fnd_none {α : Type} {pa : α → ByteArray} {ts : List α} {p : ByteArray} (h : ∀ x ∈ ts, pa x ≠ p) : fnd pa ts p = none := by
  unfold fnd
  rw [List.find?_eq_none]
  intro x hx e
  exact h x hx (eqb_iff.1 e)
theorem fnd_some {α : Type} {pa : α → ByteArray} {ts : List α} {p : ByteArray} {x : α} (h : fnd pa ts p = some x) : x ∈ ts ∧ pa x = p := by
  unfold fnd at h
  obtain ⟨h2, l1, l2, rfl, _⟩ := List.find?_eq_some_iff_append.1 h
  exact ⟨by simp, eqb_iff.1 h2⟩

theorem toList_eq_data (x : ByteArray) : x.toList = x.data.toList := Lib.toList_data x

/-- The least of names comes first. -/
theorem ascN_head {ns : List ByteArray} {p : ByteArray} (hA : AscN ns) (hp : p ∈ ns) (hl : ∀ q ∈ ns, q ≠ p → Op.bytesLess p.toList q.toList = true) :
    ∃ r, ns = p :: r ∧ AscN r ∧ (∀ q ∈ r, q ≠ p) := by
  cases ns with
  | nil => cases hp
  | cons q r =>
    obtain ⟨hq, hr⟩ := List.pairwise_cons.1 hA
    have hirr : ∀ z : ByteArray, Op.bytesLess z.toList z.toList ≠ true := fun z e => by rw [less_irrefl] at e; cases e
    have e : q = p := by
      rcases List.mem_cons.1 hp with e | e
      · exact e.symm
      · by_cases h : q = p
        · exact h
        · exact absurd (less_trans (hq p e) (hl q (by simp) h)) (hirr q)
    subst e
    exact ⟨r, rfl, hr, fun z hz e => by rw [e] at hz; exact hirr q (hq q hz)⟩

theorem mrg_eq {α β : Type} (pa : α → ByteArray) (pb : β → ByteArray) : ∀ (n : Nat) (ts : List α) (us : List β) (ns : List ByteArray), ts.length + us.length ≤ n → AscK pa ts → AscK pb us → AscN ns →
    (∀ p, p ∈ ns ↔ (∃ x ∈ ts, pa x = p) ∨ ∃ y ∈ us, pb y = p) → mrg pa pb n ts us = ns.map fun p => (p, fnd pa ts p, fnd pb us p)
  | 0, ts, us, ns, hn, _, _, _, hm => by
    have h1 : ts = [] := List.eq_nil_of_length_eq_zero (by omega)
    have h2 : us = [] := List.eq_nil_of_length_eq_zero (by omega)
    subst h1 h2
    cases ns with
    | nil => rfl
    | cons p ns => have := (hm p).1 (by simp); simp at this
  | n + 1, [], [], ns, _, _, _, _, hm => by
    cases ns with
    | nil => rfl
    | cons p ns => have := (hm p).1 (by simp); simp at this
  | n + 1, [], y :: us, ns, hn, hA, hB, hN, hm => by
    obtain ⟨hy, hB'⟩ := List.pairwise_cons.1 hB
    obtain ⟨r, rfl, hr, hq⟩ := ascN_head (p := pb y) hN ((hm _).2 (.inr ⟨y, by simp, rfl⟩)) (fun q h1 h2 => by
      rcases (hm q).1 h1 with ⟨x, hx, _⟩ | ⟨z, hz, rfl⟩
      · cases hx
      · rcases List.mem_cons.1 hz with e | e
        · exact absurd (by rw [e]) h2
        · exact hy z e)
    have ih := mrg_eq pa pb n [] us r (by simp at hn ⊢; omega) hA hB' hr (fun p => by
      constructor
      · intro hp
        rcases (hm p).1 (by simp [hp]) with ⟨x, hx, _⟩ | ⟨z, hz, rfl⟩
        · cases hx
        · rcases List.mem_cons.1 hz with e | e
          · exact absurd (by rw [e]) (hq _ hp)
          · exact .inr ⟨z, e, rfl⟩
      · rintro (⟨x, hx, _⟩ | ⟨z, hz, rfl⟩)
        · cases hx
        · rcases List.mem_cons.1 ((hm (pb z)).2 (.inr ⟨z, by simp [hz], rfl⟩)) with e | e
          · exact absurd e.symm (less_ne (hy z hz))
          · exact e)
    show (pb y, none, some y) :: mrg pa pb n [] us = _
    rw [ih, List.map_cons]
    congr 1
    · rw [fnd_cons_eq rfl]; rfl
    · refine List.map_congr_left fun p hp => ?_
      rw [fnd_cons_ne (fun e => hq p hp e.symm)]
  | n + 1, x :: ts, [], ns, hn, hA, hB, hN, hm => by
    obtain ⟨hx, hA'⟩ := List.pairwise_cons.1 hA
    obtain ⟨r, rfl, hr, hq⟩ := ascN_head (p := pa x) hN ((hm _).2 (.inl ⟨x, by simp, rfl⟩)) (fun q h1 h2 => by
      rcases (hm q).1 h1 with ⟨z, hz, rfl⟩ | ⟨x, hx, _⟩
      · rcases List.mem_cons.1 hz with e | e
        · exact absurd (by rw [e]) h2
        · exact hx z e
      · cases hx)
    have ih := mrg_eq pa pb n ts [] r (by simp at hn ⊢; omega) hA' hB hr (fun p => by
      constructor
      · intro hp
        rcases (hm p).1 (by simp [hp]) with ⟨z, hz, rfl⟩ | ⟨x, hx, _⟩
        · rcases List.mem_cons.1 hz with e | e
          · exact absurd (by rw [e]) (hq _ hp)
          · exact .inl ⟨z, e, rfl⟩
        · cases hx
      · rintro (⟨z, hz, rfl⟩ | ⟨x, hx, _⟩)
        · rcases List.mem_cons.1 ((hm (pa z)).2 (.inl ⟨z, by simp [hz], rfl⟩)) with e | e
          · exact absurd e.symm (less_ne (hx z hz))
          · exact e
        · cases hx)
    show (pa x, some x, none) :: mrg pa pb n ts [] = _
    rw [ih, List.map_cons]
    congr 1
    · rw [fnd_cons_eq rfl]; rfl
    · refine List.map_congr_left fun p hp => ?_
      rw [fnd_cons_ne (fun e => hq p hp e.symm)]
  | n + 1, x :: ts, y :: us, ns, hn, hA, hB, hN, hm => by
    obtain ⟨hx, hA'⟩ := List.pairwise_cons.1 hA
    obtain ⟨hy, hB'⟩ := List.pairwise_cons.1 hB
    unfold mrg
    by_cases hlt : Lib.compareBytes (pa x).data.toList (pb y).data.toList < 0
    · rw [if_pos hlt]
      have hxy : Op.bytesLess (pa x).toList (pb y).toList = true := by rw [toList_eq_data, toList_eq_data]; exact compare_neg.1 hlt
      have hyl : ∀ z ∈ y :: us, Op.bytesLess (pa x).toList (pb z).toList = true := fun z hz => by
        rcases List.mem_cons.1 hz with e | e
        · rw [e]; exact hxy
        · exact less_trans hxy (hy z e)
      obtain ⟨r, rfl, hr, hq⟩ := ascN_head (p := pa x) hN ((hm _).2 (.inl ⟨x, by simp, rfl⟩)) (fun q h1 h2 => by
        rcases (hm q).1 h1 with ⟨z, hz, rfl⟩ | ⟨z, hz, rfl⟩
        · rcases List.mem_cons.1 hz with e | e
          · exact absurd (by rw [e]) h2
          · exact hx z e
        · exact hyl z hz)
      have ih := mrg_eq pa pb n ts (y :: us) r (by simp at hn ⊢; omega) hA' hB hr (fun p => by
        constructor
        · intro hp
          rcases (hm p).1 (by simp [hp]) with ⟨z, hz, rfl⟩ | h
          · rcases List.mem_cons.1 hz with e | e
            · exact absurd (by rw [e]) (hq _ hp)
            · exact .inl ⟨z, e, rfl⟩
          · exact .inr h
        · rintro (⟨z, hz, rfl⟩ | ⟨z, hz, rfl⟩)
          · rcases List.mem_cons.1 ((hm (pa z)).2 (.inl ⟨z, by simp [hz], rfl⟩)) with e | e
            · exact absurd e.symm (less_ne (hx z hz))
            · exact e
          · rcases List.mem_cons.1 ((hm (pb z)).2 (.inr ⟨z, hz, rfl⟩)) with e | e
            · exact absurd e.symm (less_ne (hyl z hz))
            · exact e)
      rw [ih, List.map_cons]
      congr 1
      · rw [fnd_cons_eq rfl, fnd_none (fun z hz e => less_ne (hyl z hz) e.symm)]
      · refine List.map_congr_left fun p hp => ?_
        rw [fnd_cons_ne (pa := pa) (fun e => hq p hp e.symm)]
    · rw [if_neg hlt]
      by_cases hgt : 0 < Lib.compareBytes (pa x).data.toList (pb y).data.toList
      · rw [if_pos hgt]
        have hxy : Op.bytesLess (pb y).toList (pa x).toList = true := by rw [toList_eq_data, toList_eq_data]; exact compare_pos.1 hgt
        have hxl : ∀ z ∈ x :: ts, Op.bytesLess (pb y).toList (pa z).toList = true := fun z hz => by
          rcases List.mem_cons.1 hz with e | e
          · rw [e]; exact hxy
          · exact less_trans hxy (hx z e)
        obtain ⟨r, rfl, hr, hq⟩ := ascN_head (p := pb y) hN ((hm _).2 (.inr ⟨y, by simp, rfl⟩)) (fun q h1 h2 => by
          rcases (hm q).1 h1 with ⟨z, hz, rfl⟩ | ⟨z, hz, rfl⟩
          · exact hxl z hz
          · rcases List.mem_cons.1 hz with e | e
            · exact absurd (by rw [e]) h2
            · exact hy z e)
        have ih := mrg_eq pa pb n (x :: ts) us r (by simp at hn ⊢; omega) hA hB' hr (fun p => by
          constructor
          · intro hp
            rcases (hm p).1 (by simp [hp]) with h | ⟨z, hz, rfl⟩
            · exact .inl h
            · rcases List.mem_cons.1 hz with e | e
              · exact absurd (by rw [e]) (hq _ hp)
              · exact .inr ⟨z, e, rfl⟩
          · rintro (⟨z, hz, rfl⟩ | ⟨z, hz, rfl⟩)
            · rcases List.mem_cons.1 ((hm (pa z)).2 (.inl ⟨z, hz, rfl⟩)) with e | e
              · exact absurd e.symm (less_ne (hxl z hz))
              · exact e
            · rcases List.mem_cons.1 ((hm (pb z)).2 (.inr ⟨z, by simp [hz], rfl⟩)) with e | e
              · exact absurd e.symm (less_ne (hy z hz))
              · exact e)
        rw [ih, List.map_cons]
        congr 1
        · rw [fnd_cons_eq rfl, fnd_none (fun z hz e => less_ne (hxl z hz) e.symm)]
        · refine List.map_congr_left fun p hp => ?_
          rw [fnd_cons_ne (pa := pb) (fun e => hq p hp e.symm)]
      · rw [if_neg hgt]
        have exy : pa x = pb y := by
          by_cases h : pa x = pb y
          · exact h
          · exfalso
            have h1 : Op.bytesLess (pa x).toList (pb y).toList = false := by
              rw [Bool.eq_false_iff]
              intro e
              rw [toList_eq_data, toList_eq_data] at e
              exact hlt (compare_neg.2 e)
            have h2 := less_of h1 h
            rw [toList_eq_data, toList_eq_data] at h2
            exact hgt (compare_pos.2 h2)
        obtain ⟨r, rfl, hr, hq⟩ := ascN_head (p := pa x) hN ((hm _).2 (.inl ⟨x, by simp, rfl⟩)) (fun q h1 h2 => by
          rcases (hm q).1 h1 with ⟨z, hz, rfl⟩ | ⟨z, hz, rfl⟩
          · rcases List.mem_cons.1 hz with e | e
            · exact absurd (by rw [e]) h2
            · exact hx z e
          · rcases List.mem_cons.1 hz with e | e
            · exact absurd (by rw [e, exy]) h2
            · rw [exy]; exact hy z e)
        have ih := mrg_eq pa pb n ts us r (by simp at hn ⊢; omega) hA' hB' hr (fun p => by
          constructor
          · intro hp
            rcases (hm p).1 (by simp [hp]) with ⟨z, hz, rfl⟩ | ⟨z, hz, rfl⟩
            · rcases List.mem_cons.1 hz with e | e
              · exact absurd (by rw [e]) (hq _ hp)
              · exact .inl ⟨z, e, rfl⟩
            · rcases List.mem_cons.1 hz with e | e
              · exact absurd (by rw [e, exy]) (hq _ hp)
              · exact .inr ⟨z, e, rfl⟩
          · rintro (⟨z, hz, rfl⟩ | ⟨z, hz, rfl⟩)
            · rcases List.mem_cons.1 ((hm (pa z)).2 (.inl ⟨z, by simp [hz], rfl⟩)) with e | e
              · exact absurd e.symm (less_ne (hx z hz))
              · exact e
            · rcases List.mem_cons.1 ((hm (pb z)).2 (.inr ⟨z, by simp [hz], rfl⟩)) with e | e
              · rw [exy] at e; exact absurd e.symm (less_ne (hy z hz))
              · exact e)
        rw [ih, List.map_cons]
        congr 1
        · rw [fnd_cons_eq rfl, fnd_cons_eq exy.symm]
        · refine List.map_congr_left fun p hp => ?_
          rw [fnd_cons_ne (pa := pa) (fun e => hq p hp e.symm), fnd_cons_ne (pa := pb) (fun e => hq p hp (by rw [exy, e]))]
/-- The fronts of two lists held against each other. -/
def frontG {α β : Type} (pa : α → ByteArray) (pb : β → ByteArray) : List α → List β → Int
  | [], _ => 1
  | _ :: _, [] => -1
  | x :: _, y :: _ => Lib.compareBytes (pa x).data.toList (pb y).data.toList
theorem frontG_lt {α β : Type} {pa : α → ByteArray} {pb : β → ByteArray} {f : Nat} {ts : List α} {us : List β} (h : frontG pa pb ts us < 0) : ∃ x tr, ts = x :: tr ∧ mrg pa pb (f + 1) ts us = (pa x, some x, none) :: mrg pa pb f tr us := by
  cases ts with
  | nil => simp [frontG] at h
  | cons x tr =>
    refine ⟨x, tr, rfl, ?_⟩
    cases us with
    | nil => rfl
    | cons y ur =>
      simp only [frontG] at h
      simp only [mrg]
      rw [if_pos h]
theorem frontG_gt {α β : Type} {pa : α → ByteArray} {pb : β → ByteArray} {f : Nat} {ts : List α} {us : List β} (h : 0 < frontG pa pb ts us) (hne : ¬ (ts = [] ∧ us = [])) : ∃ y ur, us = y :: ur ∧ mrg pa pb (f + 1) ts us = (pb y, none, some y) :: mrg pa pb f ts ur := by
  cases us with
  | nil =>
    cases ts with
    | nil => exact absurd ⟨rfl, rfl⟩ hne
    | cons x tr => simp [frontG] at h
  | cons y ur =>
    refine ⟨y, ur, rfl, ?_⟩
    cases ts with
    | nil => rfl
    | cons x tr =>
      simp only [frontG] at h
      simp only [mrg]
      rw [if_neg (by omega), if_pos h]
theorem frontG_eq {α β : Type} {pa : α → ByteArray} {pb : β → ByteArray} {f : Nat} {ts : List α} {us : List β} (h : frontG pa pb ts us = 0) : ∃ x tr y ur, ts = x :: tr ∧ us = y :: ur ∧ mrg pa pb (f + 1) ts us = (pa x, some x, some y) :: mrg pa pb f tr ur := by
  cases ts with
  | nil => simp [frontG] at h
  | cons x tr =>
    cases us with
    | nil => simp [frontG] at h
    | cons y ur =>
      refine ⟨x, tr, y, ur, rfl, rfl, ?_⟩
      simp only [frontG] at h
      simp only [mrg]
      rw [if_neg (by omega), if_neg (by omega)]
theorem drop_cons {α : Type} {ts : List α} {p : Nat} {x : α} {tr : List α} (h : ts.drop p = x :: tr) : ∃ hp : p < ts.length, ts[p] = x ∧ ts.drop (p + 1) = tr := by
  have hp : p < ts.length := by
    rcases Nat.lt_or_ge p ts.length with h1 | h1
    · exact h1
    · rw [List.drop_of_length_le h1] at h; cases h
  rw [List.drop_eq_getElem_cons hp] at h
  injection h with h1 h2
  exact ⟨hp, h1, h2⟩
end Go.Proofs.Ytjlflmbifeocbaa

namespace Go.Proofs.Ytjlflmbifeocbaa
open Go.RowKit

set_option maxRecDepth 100000 in
theorem mp_e (x : Value) (w : World) : (method 245 57 x "loop.example/kilntree/impl.path").run Try.prog w = .ok (109, x) w := by kernel_rfl
set_option maxRecDepth 100000 in
theorem cp_e (x : Value) (w : World) : (callFunc 109 #[x]).run Try.prog w = .ok (.enter 109 #[x]) w := by kernel_rfl

theorem pathE_any (e : En) (w : World) : Calls Try.prog 109 #[.agg #[.string e.path, .string e.text, .bool e.runs]] w fun r w' => r = .returned (.string e.path) ∧ Below w.heap.size w w' := by
  go_enter Try.func109, Try.ntmps109
  go_wp2
  go_ret
  exact ⟨rfl, (Below.refl _ _).alloc (Nat.le_refl _) _⟩
end Go.Proofs.Ytjlflmbifeocbaa

namespace Go.Proofs.Ytjlflmbifeocbaa
open Go.RowKit

set_option maxRecDepth 100000 in
set_option maxHeartbeats 4000000 in
theorem frontsE_any (a b : Option Addr) (ca cb : Nat) (ts : List En) (us : List En) (w : World) (hts : ES w a ts) (hus : ES w b us) :
    Calls Try.prog 57 #[.slice a ts.length ca, .slice b us.length cb] w fun e w' => e = .returned (.int .i64 (frontG En.path En.path ts us)) ∧ Below w.heap.size w w' := by
  cases ts with
  | nil =>
    go_enter Try.func57, Try.ntmps57
    go_wp2
    go_ret
    exact ⟨rfl, Below.refl _ _⟩
  | cons x ts =>
    obtain ⟨b1, o1, rfl, hc1⟩ := hts.at (k := 0) (by simp)
    obtain ⟨x0, x1, x2⟩ := hc1 0 (by simp)
    simp only [List.getElem_cons_zero, Nat.zero_mul, Nat.add_zero] at x0 x1 x2
    have hl1 : (((x :: ts).length : Int) == 0) = false := by simp; omega
    have hl1' : (0 : Int) < (x :: ts).length := by rw [List.length_cons]; omega
    clear hc1 hts
    cases us with
    | nil =>
      generalize (x :: ts).length = n1 at *
      go_enter Try.func57, Try.ntmps57
      go_wp2
      go_ret
      exact ⟨rfl, Below.refl _ _⟩
    | cons y us =>
      obtain ⟨b2, o2, rfl, hc2⟩ := hus.at (k := 0) (by simp)
      obtain ⟨y0, y1, y2⟩ := hc2 0 (by simp)
      simp only [List.getElem_cons_zero, Nat.zero_mul, Nat.add_zero] at y0 y1 y2
      have hl2 : (((y :: us).length : Int) == 0) = false := by simp; omega
      have hl2' : (0 : Int) < (y :: us).length := by rw [List.length_cons]; omega
      clear hc2 hus
      generalize (x :: ts).length = n1 at *
      generalize (y :: us).length = n2 at *
      have cx0 : ∀ z : Later w, z.world.cell? ⟨b1, o1, none⟩ = some (.string x.path) := fun z => cell_later z.kept x0
      have cx1 : ∀ z : Later w, z.world.cell? ⟨b1, o1 + 1, none⟩ = some (.string x.text) := fun z => cell_later z.kept x1
      have cx2 : ∀ z : Later w, z.world.cell? ⟨b1, o1 + 2, none⟩ = some (.bool x.runs) := fun z => cell_later z.kept x2
      have cy0 : ∀ z : Later w, z.world.cell? ⟨b2, o2, none⟩ = some (.string y.path) := fun z => cell_later z.kept y0
      have cy1 : ∀ z : Later w, z.world.cell? ⟨b2, o2 + 1, none⟩ = some (.string y.text) := fun z => cell_later z.kept y1
      have cy2 : ∀ z : Later w, z.world.cell? ⟨b2, o2 + 2, none⟩ = some (.bool y.runs) := fun z => cell_later z.kept y2
      have HC1 : Keep (∀ z : Later w, Calls Try.prog 109 #[.agg #[.string x.path, .string x.text, .bool x.runs]] z.world fun e w'' => e = .returned (.string x.path) ∧ ∃ q : Later w, w'' = q.world) := ⟨fun z => Later.call z (pathE_any x _)⟩
      have HC2 : Keep (∀ z : Later w, Calls Try.prog 109 #[.agg #[.string y.path, .string y.text, .bool y.runs]] z.world fun e w'' => e = .returned (.string y.path) ∧ ∃ q : Later w, w'' = q.world) := ⟨fun z => Later.call z (pathE_any y _)⟩
      have HC3 : Keep (∀ z : Later w, Calls Try.prog 71 #[.string x.path, .string y.path] z.world fun e w'' => e = .returned (.int .i64 (Lib.compareBytes x.path.data.toList y.path.data.toList)) ∧ ∃ q : Later w, w'' = q.world) := ⟨fun z => Later.call z ((compare_any x.path y.path z.world).mono (fun e w' h => ⟨h.1, by rw [h.2]; exact Below.refl _ _⟩))⟩
      have HCM : Keep (frontG En.path En.path (x :: ts) (y :: us) = Lib.compareBytes x.path.data.toList y.path.data.toList) := ⟨rfl⟩
      clear x0 x1 x2 y0 y1 y2
      have hmp := mp_e
      have hcp := cp_e
      go_enter Try.func57, Try.ntmps57
      go_upto_region 5 with fail
      (haveI := later_any; refine wp_region_later (by kernel_rfl) (by kernel_rfl) ?_; (repeat (go_big_quiet_step (first | (go_at_call_of 109 ([Value.agg #[.string x.path, .string x.text, .bool x.runs]] : List Value); exact HC1.out _) | (go_at_call_of 109 ([Value.agg #[.string y.path, .string y.text, .bool y.runs]] : List Value); exact HC2.out _) | (go_at_call 71; exact HC3.out _)))); refine wpQuiet_nil ?_; intro _ hwq; obtain ⟨xq, hwq2⟩ := hwq; subst hwq2)
      go_wp2
      go_ret
      exact ⟨by rw [HCM.out]; rfl, xq.kept⟩
end Go.Proofs.Ytjlflmbifeocbaa

namespace Go.Proofs.Ytjlflmbifeocbaa
open Go.RowKit

/-- The entry that is nothing. -/
def zeroE : En := ⟨⟨#[]⟩, ⟨#[]⟩, false⟩
def cutEV (e : En) : Value := .agg #[.string e.path, .string e.text, .bool e.runs]

set_option maxRecDepth 100000 in
theorem cutEn (a : Option Addr) (cp : Nat) (ts : List En) (k : Nat) (hk : k ≤ ts.length) (hc : ts.length ≤ cp) : ∃ ad' c', (∀ w1, (Instr.sliceAt 23 (.slice a ts.length cp) (some (.int .i64 (k : Int))) none none).run Try.prog w1 = .ok (.slice ad' (ts.drop k).length c') w1) ∧ ∀ W, ES W a ts → ES W ad' (ts.drop k) := by
  have hrun : ∀ w1, (Instr.sliceAt 23 (.slice a ts.length cp) (some (.int .i64 (k : Int))) none none).run Try.prog w1 = .ok (sliced a k ts.length cp 3) w1 := fun w1 => by
    rw [run_sliceAt_slice w1 _ _ _ _ _ Try.underlying23, run_slice_l w1 _ _ _ _ Try.underlying23 .i64 (k : Int) (by omega) (by omega)]
    have hz : (sizeOf (Try.prog.elem 23)).run Try.prog w1 = .ok 3 w1 := by kernel_rfl
    rw [hz, show (k : Int).toNat = k by omega]
    rfl
  refine ⟨if cp = k then a else a.map (·.add (k * 3)), cp - k, fun w1 => by rw [hrun w1, List.length_drop]; rfl, fun W hE => ?_⟩
  rcases hE with h | ⟨b, off, rfl, hcl⟩
  · subst h; exact .inl (by simp)
  · by_cases hl : k = ts.length
    · subst hl; exact .inl (by simp)
    · rw [if_neg (by omega)]
      refine .inr ⟨b, off + k * 3, by rw [Option.map_some, WideShapes.add_plain], fun i hi => ?_⟩
      rw [List.length_drop] at hi
      obtain ⟨c0, c1, c2⟩ := hcl (k + i) (by omega)
      rw [List.getElem_drop]
      rw [show off + k * 3 + i * 3 = off + (k + i) * 3 by omega]
      exact ⟨c0, c1, c2⟩

theorem ES.cells {w : World} {b off : Nat} {ts : List En} (h : ES w (some ⟨b, off, none⟩) ts) {k : Nat} (hk : k < ts.length) :
    w.cell? ⟨b, off + k * 3, none⟩ = some (.string ts[k].path) ∧ w.cell? ⟨b, off + k * 3 + 1, none⟩ = some (.string ts[k].text) ∧ w.cell? ⟨b, off + k * 3 + 2, none⟩ = some (.bool ts[k].runs) := by
  obtain ⟨b', o', ha, hc⟩ := h.at hk
  simp only [Option.some.injEq, Addr.mk.injEq, and_true] at ha
  obtain ⟨rfl, rfl⟩ := ha
  exact hc k hk

theorem box3_set {X : World} {g : Nat} {u0 u1 u2 : Value} (v0 v1 v2 : Value) (h0 : X.cell? ⟨g, 0, none⟩ = some u0) (h1 : X.cell? ⟨g, 1, none⟩ = some u1) (h2 : X.cell? ⟨g, 2, none⟩ = some u2) :
    (((X.setCell ⟨g, 0, none⟩ v0).setCell ⟨g, 1, none⟩ v1).setCell ⟨g, 2, none⟩ v2).cell? ⟨g, 0, none⟩ = some v0 ∧ (((X.setCell ⟨g, 0, none⟩ v0).setCell ⟨g, 1, none⟩ v1).setCell ⟨g, 2, none⟩ v2).cell? ⟨g, 1, none⟩ = some v1 ∧ (((X.setCell ⟨g, 0, none⟩ v0).setCell ⟨g, 1, none⟩ v1).setCell ⟨g, 2, none⟩ v2).cell? ⟨g, 2, none⟩ = some v2 := by
  refine ⟨?_, ?_, ?_⟩
  · rw [World.cell?_setCell_other _ _ _ _ (by simp), World.cell?_setCell_other _ _ _ _ (by simp)]; exact World.cell?_setCell_same _ _ _ h0
  · rw [World.cell?_setCell_other _ _ _ _ (by simp)]; exact World.cell?_setCell_same _ _ _ ((World.cell?_setCell_other _ _ _ _ (by simp)).trans h1)
  · exact World.cell?_setCell_same _ _ _ ((World.cell?_setCell_other _ _ _ _ (by simp)).trans ((World.cell?_setCell_other _ _ _ _ (by simp)).trans h2))
theorem box3_other {X : World} {g h j : Nat} (v0 v1 v2 : Value) (hn : ¬ g = h) : (((X.setCell ⟨g, 0, none⟩ v0).setCell ⟨g, 1, none⟩ v1).setCell ⟨g, 2, none⟩ v2).cell? ⟨h, j, none⟩ = X.cell? ⟨h, j, none⟩ := by
  have hne : ∀ k, (⟨g, k, none⟩ : Addr) ≠ ⟨h, j, none⟩ := fun k e => hn (congrArg Addr.block e)
  rw [World.cell?_setCell_other _ _ _ _ (hne _), World.cell?_setCell_other _ _ _ _ (hne _), World.cell?_setCell_other _ _ _ _ (hne _)]
theorem box3_below {w X : World} {g : Nat} (v0 v1 v2 : Value) (hX : Below w.heap.size w X) (hg : w.heap.size ≤ g) : Below w.heap.size w (((X.setCell ⟨g, 0, none⟩ v0).setCell ⟨g, 1, none⟩ v1).setCell ⟨g, 2, none⟩ v2) :=
  (((hX.setCell (p := ⟨g, 0, none⟩) hg _).setCell (p := ⟨g, 1, none⟩) hg _).setCell (p := ⟨g, 2, none⟩) hg _)
theorem box3_fz {X : World} {g : Nat} {p : Addr} (v0 v1 v2 : Value) : (((X.setCell ⟨g, 0, none⟩ v0).setCell ⟨g, 1, none⟩ v1).setCell ⟨g, 2, none⟩ v2).frozen? p = X.frozen? p := by
  rw [World.frozen?_setCell, World.frozen?_setCell, World.frozen?_setCell]
end Go.Proofs.Ytjlflmbifeocbaa

namespace Go.Proofs.Ytjlflmbifeocbaa
open Go.RowKit Go.Shelf

attribute [local go_sem] Oper.semAt_some

abbrev PE : Type := ByteArray × Option En × Option En
def yE (x : PE) : Array Value := #[cutEV (x.2.1.getD zeroE), cutEV (x.2.2.getD zeroE)]

theorem two_boxesE {w A X : World} {t t2 : TypeId} (hA : A = (w.alloc (.cells #[.string ⟨#[]⟩, .string ⟨#[]⟩, .bool false] t)).alloc (.cells #[.string ⟨#[]⟩, .string ⟨#[]⟩, .bool false] t2)) (hb : Below A.heap.size A X) :
    (X.cell? ⟨w.heap.size, 0, none⟩ = some (.string ⟨#[]⟩) ∧ X.cell? ⟨w.heap.size, 1, none⟩ = some (.string ⟨#[]⟩) ∧ X.cell? ⟨w.heap.size, 2, none⟩ = some (.bool false)) ∧ (X.cell? ⟨w.heap.size + 1, 0, none⟩ = some (.string ⟨#[]⟩) ∧ X.cell? ⟨w.heap.size + 1, 1, none⟩ = some (.string ⟨#[]⟩) ∧ X.cell? ⟨w.heap.size + 1, 2, none⟩ = some (.bool false)) ∧ (∀ j, X.frozen? ⟨w.heap.size, j, none⟩ = false) ∧ ∀ j, X.frozen? ⟨w.heap.size + 1, j, none⟩ = false := by
  have hl : w.heap.size + 1 < A.heap.size := by rw [hA]; simp
  refine ⟨⟨cell_later hb (by rw [hA]; simp [go_sem]), cell_later hb (by rw [hA]; simp [go_sem]), cell_later hb (by rw [hA]; simp [go_sem])⟩, ⟨cell_later hb (by rw [hA]; simp [go_sem]), cell_later hb (by rw [hA]; simp [go_sem]), cell_later hb (by rw [hA]; simp [go_sem])⟩, fun j => ?_, fun j => ?_⟩
  · exact (hb.frozen (p := ⟨w.heap.size, j, none⟩) (by show w.heap.size < _; omega)).trans (by rw [hA]; simp [go_sem])
  · exact (hb.frozen (p := ⟨w.heap.size + 1, j, none⟩) (by show w.heap.size + 1 < _; omega)).trans (by rw [hA]; simp [go_sem])

def sideMemE (Ba Bb : Nat) (a b : Option Addr) (ca cb : Nat) (ts : List En) (us : List En) (W : World) : Prop :=
  W.cell? ⟨Ba, 0, none⟩ = some (.slice a ts.length ca) ∧ W.cell? ⟨Bb, 0, none⟩ = some (.slice b us.length cb) ∧ ES W a ts ∧ ES W b us

def mrgE (ts : List En) (us : List En) : List PE := mrg En.path En.path (ts.length + us.length) ts us

set_option maxRecDepth 100000 in
set_option maxHeartbeats 8000000 in
theorem sideE1_in (n l Ba Bb : Nat) (a b : Option Addr) (ca cb : Nat) (ts : List En) (us : List En) (hca : ts.length ≤ ca) (hcb : us.length ≤ cb) (hnt : ts.length ≤ 1048576) (hnu : us.length ≤ 1048576)
    (J Jx : List PE → World → Prop) (W : World)
    (hM : ∀ pre W1, J pre W1 → sideMemE Ba Bb a b ca cb ts us W1)
    (hJ : ∀ pre W1 W2, J pre W1 → Below W1.heap.size W1 W2 → J pre W2)
    (hY : ∀ pre x W1, J pre W1 → (∃ r, mrgE ts us = (pre ++ [x]) ++ r) → YieldAt Fence.wide (n - 1) Try.prog l (yE x) W1 fun e W' =>
      (e = .returned (.bool true) ∧ J (pre ++ [x]) W') ∨ (e = .returned (.bool false) ∧ Jx (pre ++ [x]) W'))
    (h0 : J [] W) :
    CallsIn Fence.wide n Try.prog 56 #[.func (.yield l) #[] #[], .pointer (some ⟨Ba, 0, none⟩), .pointer (some ⟨Bb, 0, none⟩)] W fun e W' => (∃ v, e = .returned v) ∧
      (J (mrgE ts us) W' ∨ (∃ pre, pre <+: mrgE ts us ∧ Jx pre W')) := by
  refine callsIn_of_wp Try.func56 rfl trivial ?_ rfl
  simp only [Try.ntmps56, List.size_toArray, List.length_cons, List.length_nil, Nat.reduceAdd, Nat.reduceSub, Array.replicate_succ, Array.replicate_zero, List.push_toArray, List.append_toArray, List.nil_append, List.cons_append]
  gi_wp2
  gi_loopw [4, 5] (fun i j wr => ∃ (p q f : Nat) (pre : List PE), i = .int .i64 p ∧ j = .int .i64 q ∧ p ≤ ts.length ∧ q ≤ us.length ∧ (ts.length - p) + (us.length - q) ≤ f ∧ mrgE ts us = pre ++ mrg En.path En.path f (ts.drop p) (us.drop q) ∧ J pre wr)
    (fun i j _ => (ts.length - (intOf i).toNat) + (us.length - (intOf j).toNat))
  case atStart => exact ⟨0, 0, ts.length + us.length, [], rfl, rfl, Nat.zero_le _, Nat.zero_le _, by omega, by simp [mrgE], h0⟩
  case round =>
    obtain ⟨p, q, f, pre, rfl, rfl, hp, hq, hf, hm, hJs⟩ := hrel
    obtain ⟨m1, m2, e1, e2⟩ := hM pre wr hJs
    by_cases hend : p = ts.length ∧ q = us.length
    · obtain ⟨rfl, rfl⟩ := hend
      have hE : mrgE ts us = pre := by
        rw [hm]
        cases f with
        | zero => simp [mrg]
        | succ f => simp [mrg]
      gi_wp2
      go_end0
      exact ⟨⟨_, rfl⟩, .inl (by rw [hE]; exact hJs)⟩
    · obtain ⟨ad1, c1, hs1, hes1⟩ := cutEn a ca ts p hp hca
      obtain ⟨ad2, c2, hs2, hes2⟩ := cutEn b cb us q hq hcb
      have hal : Below wr.heap.size wr ((wr.alloc (.cells #[.string ⟨#[]⟩, .string ⟨#[]⟩, .bool false] 57)).alloc (.cells #[.string ⟨#[]⟩, .string ⟨#[]⟩, .bool false] 57)) := ((Below.refl _ _).alloc (Nat.le_refl _) _).alloc (by simp) _
      obtain ⟨A, hA⟩ : ∃ A, A = (wr.alloc (.cells #[.string ⟨#[]⟩, .string ⟨#[]⟩, .bool false] 57)).alloc (.cells #[.string ⟨#[]⟩, .string ⟨#[]⟩, .bool false] 57) := ⟨_, rfl⟩
      rw [← hA] at hal
      have cm1 : ∀ z : Later A, z.world.cell? ⟨Ba, 0, none⟩ = some (.slice a ts.length ca) := fun z => cell_later z.kept (cell_later hal m1)
      have cm2 : ∀ z : Later A, z.world.cell? ⟨Bb, 0, none⟩ = some (.slice b us.length cb) := fun z => cell_later z.kept (cell_later hal m2)
      have HF : Keep (∀ z : Later A, Calls Try.prog 57 #[.slice ad1 (ts.drop p).length c1, .slice ad2 (us.drop q).length c2] z.world fun e w'' => e = .returned (.int .i64 (frontG En.path En.path (ts.drop p) (us.drop q))) ∧ ∃ y : Later A, w'' = y.world) := ⟨fun z => Later.call z (frontsE_any ad1 ad2 c1 c2 (ts.drop p) (us.drop q) z.world (hes1 _ ((e1.below hal).below z.kept)) (hes2 _ ((e2.below hal).below z.kept)))⟩
      generalize hda : (ts.drop p).length = na at hs1 HF
      generalize hdb : (us.drop q).length = nb at hs2 HF
      obtain ⟨f, rfl⟩ : ∃ f', f = f' + 1 := ⟨f - 1, by omega⟩
      have hnn : ¬ (ts.drop p = [] ∧ us.drop q = []) := fun h => hend ⟨by have := congrArg List.length h.1; simp at this; omega, by have := congrArg List.length h.2; simp at this; omega⟩
      generalize ho : frontG En.path En.path (ts.drop p) (us.drop q) = o at HF
      rcases Int.lt_trichotomy o 0 with hlt | heq | hgt
      · obtain ⟨x, tr, hd, hmr⟩ := frontG_lt (f := f) (by rw [ho]; exact hlt)
        obtain ⟨hpl, rfl, rfl⟩ := drop_cons hd
        rw [hmr] at hm
        rw [List.append_cons] at hm
        obtain ⟨b1, o1, rfl, hc1⟩ := e1.at hpl
        have hpl' : (p : Int) < ts.length := by omega
        have ho1 : o ≤ 0 := by omega
        have ho2 : ¬ 0 ≤ o := by omega
        clear hc1 hd hmr hnn ho hend hlt
        gi_wp2
        rw [← hA]
        refine wpIn_wide.2 ?_
        (haveI := later_any; refine wp_region_later (by kernel_rfl) (by kernel_rfl) ?_; (repeat (go_big_quiet_step (first | (go_at_call 57; exact HF.out _)))); refine wpQuiet_nil ?_; intro _ hwq; obtain ⟨xq, hwq2⟩ := hwq; subst hwq2)
        have hX := hal.trans (xq.kept.mono hal.size)
        obtain ⟨⟨b60, b61, b62⟩, ⟨b70, b71, b72⟩, f6, f7⟩ := two_boxesE hA xq.kept
        have HE1 : Keep (ES wr (some ⟨b1, o1, none⟩) ts) := ⟨e1⟩
        have HE2 : Keep (ES wr b us) := ⟨e2⟩
        have HM1 : Keep (wr.cell? ⟨Ba, 0, none⟩ = some (.slice (some ⟨b1, o1, none⟩) ts.length ca)) := ⟨m1⟩
        have HM2 : Keep (wr.cell? ⟨Bb, 0, none⟩ = some (.slice b us.length cb)) := ⟨m2⟩
        clear hs1 hs2 hes1 hes2 HF cm1 cm2 e1 e2 m1 m2 hA hal
        generalize xq.world = X at *
        clear xq
        obtain ⟨g6, hg6⟩ : ∃ g, g = wr.heap.size := ⟨_, rfl⟩
        obtain ⟨g7, hg7⟩ : ∃ g, g = wr.heap.size + 1 := ⟨_, rfl⟩
        rw [← hg7] at b70 b71 b72 f7 ⊢
        rw [← hg6] at b60 b61 b62 f6 ⊢
        have hn67 : ¬ g6 = g7 := by omega
        have HG : Keep (wr.heap.size ≤ g6 ∧ wr.heap.size ≤ g7) := ⟨by omega⟩
        clear hg6 hg7
        have q1 := cell_later hX HM1.out
        obtain ⟨x0, x1, x2⟩ := (HE1.out.below hX).cells hpl
        gi_upto_region 8 with fail
        replace hX := box3_below (.string ts[p].path) (.string ts[p].text) (.bool ts[p].runs) hX HG.out.1
        obtain ⟨z0, z1, z2⟩ := box3_set (.string ts[p].path) (.string ts[p].text) (.bool ts[p].runs) b60 b61 b62
        replace b70 := (box3_other (.string ts[p].path) (.string ts[p].text) (.bool ts[p].runs) hn67).trans b70
        replace b71 := (box3_other (.string ts[p].path) (.string ts[p].text) (.bool ts[p].runs) hn67).trans b71
        replace b72 := (box3_other (.string ts[p].path) (.string ts[p].text) (.bool ts[p].runs) hn67).trans b72
        replace f7 : ∀ j, (((X.setCell ⟨g6, 0, none⟩ (.string ts[p].path)).setCell ⟨g6, 1, none⟩ (.string ts[p].text)).setCell ⟨g6, 2, none⟩ (.bool ts[p].runs)).frozen? ⟨g7, j, none⟩ = false := fun j => (box3_fz (.string ts[p].path) (.string ts[p].text) (.bool ts[p].runs)).trans (f7 j)
        clear b60 b61 b62 x0 x1 x2 q1 f6
        generalize (((X.setCell ⟨g6, 0, none⟩ (.string ts[p].path)).setCell ⟨g6, 1, none⟩ (.string ts[p].text)).setCell ⟨g6, 2, none⟩ (.bool ts[p].runs)) = X2 at *
        clear X
        have hY3 : YieldAt Fence.wide (n - 1) Try.prog l #[.agg #[.string ts[p].path, .string ts[p].text, .bool ts[p].runs], .agg #[.string ⟨#[]⟩, .string ⟨#[]⟩, .bool false]] X2 (fun e W' => (e = .returned (.bool true) ∧ J (pre ++ [(ts[p].path, some ts[p], none)]) W') ∨ (e = .returned (.bool false) ∧ Jx (pre ++ [(ts[p].path, some ts[p], none)]) W')) := hY pre (ts[p].path, some ts[p], none) _ (hJ pre wr _ hJs hX) ⟨_, hm⟩
        obtain ⟨fn, tmps, assign, body, hy, hR⟩ := hY3
        have HM : Keep (mrgE ts us = pre ++ [(ts[p].path, some ts[p], none)] ++ mrg En.path En.path f (ts.drop (p + 1)) (us.drop (q))) := ⟨hm⟩
        clear hY hJ hM hm hJs hX
        gi_wp2
        refine ⟨fun h => Bool.noConfusion h, hR.mono ?_⟩
        rintro e W3 (⟨rfl, hJ3⟩ | ⟨rfl, hJx3⟩)
        · gi_wp2
          go_roundw
          case rel => exact ⟨p + 1, q, f, pre ++ [(ts[p].path, some ts[p], none)], by congr 1, by congr 1, by omega, by omega, by omega, HM.out, hJ3⟩
          case measure => simp only [intOf]; omega
        · gi_wp2
          refine bodyPost_ret (results_none rfl _ _ _) rfl ?_
          exact ⟨⟨_, rfl⟩, .inr ⟨pre ++ [(ts[p].path, some ts[p], none)], ⟨_, HM.out.symm⟩, hJx3⟩⟩
      · obtain ⟨x, tr, y, ur, hd, hd2, hmr⟩ := frontG_eq (f := f) (by rw [ho]; exact heq)
        obtain ⟨hpl, rfl, rfl⟩ := drop_cons hd
        obtain ⟨hql, rfl, rfl⟩ := drop_cons hd2
        rw [hmr] at hm
        rw [List.append_cons] at hm
        obtain ⟨b1, o1, rfl, hc1⟩ := e1.at hpl
        obtain ⟨b2, o2, rfl, hc2⟩ := e2.at hql
        have hpl' : (p : Int) < ts.length := by omega
        have hql' : (q : Int) < us.length := by omega
        subst heq
        clear hc1 hc2 hd hd2 hmr hnn ho hend
        gi_wp2
        rw [← hA]
        refine wpIn_wide.2 ?_
        (haveI := later_any; refine wp_region_later (by kernel_rfl) (by kernel_rfl) ?_; (repeat (go_big_quiet_step (first | (go_at_call 57; exact HF.out _)))); refine wpQuiet_nil ?_; intro _ hwq; obtain ⟨xq, hwq2⟩ := hwq; subst hwq2)
        have hX := hal.trans (xq.kept.mono hal.size)
        obtain ⟨⟨b60, b61, b62⟩, ⟨b70, b71, b72⟩, f6, f7⟩ := two_boxesE hA xq.kept
        have HE1 : Keep (ES wr (some ⟨b1, o1, none⟩) ts) := ⟨e1⟩
        have HE2 : Keep (ES wr (some ⟨b2, o2, none⟩) us) := ⟨e2⟩
        have HM1 : Keep (wr.cell? ⟨Ba, 0, none⟩ = some (.slice (some ⟨b1, o1, none⟩) ts.length ca)) := ⟨m1⟩
        have HM2 : Keep (wr.cell? ⟨Bb, 0, none⟩ = some (.slice (some ⟨b2, o2, none⟩) us.length cb)) := ⟨m2⟩
        clear hs1 hs2 hes1 hes2 HF cm1 cm2 e1 e2 m1 m2 hA hal
        generalize xq.world = X at *
        clear xq
        obtain ⟨g6, hg6⟩ : ∃ g, g = wr.heap.size := ⟨_, rfl⟩
        obtain ⟨g7, hg7⟩ : ∃ g, g = wr.heap.size + 1 := ⟨_, rfl⟩
        rw [← hg7] at b70 b71 b72 f7 ⊢
        rw [← hg6] at b60 b61 b62 f6 ⊢
        have hn67 : ¬ g6 = g7 := by omega
        have HG : Keep (wr.heap.size ≤ g6 ∧ wr.heap.size ≤ g7) := ⟨by omega⟩
        clear hg6 hg7
        have q1 := cell_later hX HM1.out
        obtain ⟨x0, x1, x2⟩ := (HE1.out.below hX).cells hpl
        gi_upto_region 8 with fail
        replace hX := box3_below (.string ts[p].path) (.string ts[p].text) (.bool ts[p].runs) hX HG.out.1
        obtain ⟨z0, z1, z2⟩ := box3_set (.string ts[p].path) (.string ts[p].text) (.bool ts[p].runs) b60 b61 b62
        replace b70 := (box3_other (.string ts[p].path) (.string ts[p].text) (.bool ts[p].runs) hn67).trans b70
        replace b71 := (box3_other (.string ts[p].path) (.string ts[p].text) (.bool ts[p].runs) hn67).trans b71
        replace b72 := (box3_other (.string ts[p].path) (.string ts[p].text) (.bool ts[p].runs) hn67).trans b72
        replace f7 : ∀ j, (((X.setCell ⟨g6, 0, none⟩ (.string ts[p].path)).setCell ⟨g6, 1, none⟩ (.string ts[p].text)).setCell ⟨g6, 2, none⟩ (.bool ts[p].runs)).frozen? ⟨g7, j, none⟩ = false := fun j => (box3_fz (.string ts[p].path) (.string ts[p].text) (.bool ts[p].runs)).trans (f7 j)
        clear b60 b61 b62 x0 x1 x2 q1 f6
        generalize (((X.setCell ⟨g6, 0, none⟩ (.string ts[p].path)).setCell ⟨g6, 1, none⟩ (.string ts[p].text)).setCell ⟨g6, 2, none⟩ (.bool ts[p].runs)) = X2 at *
        clear X
        have q2 := cell_later hX HM2.out
        obtain ⟨y0, y1, y2⟩ := (HE2.out.below hX).cells hql
        gi_upto_region 11 with fail
        replace hX := box3_below (.string us[q].path) (.string us[q].text) (.bool us[q].runs) hX HG.out.2
        obtain ⟨v0, v1, v2⟩ := box3_set (.string us[q].path) (.string us[q].text) (.bool us[q].runs) b70 b71 b72
        have hn76 : ¬ g7 = g6 := fun e => hn67 e.symm
        replace z0 := (box3_other (.string us[q].path) (.string us[q].text) (.bool us[q].runs) hn76).trans z0
        replace z1 := (box3_other (.string us[q].path) (.string us[q].text) (.bool us[q].runs) hn76).trans z1
        replace z2 := (box3_other (.string us[q].path) (.string us[q].text) (.bool us[q].runs) hn76).trans z2
        clear b70 b71 b72 y0 y1 y2 q2 f7
        generalize (((X2.setCell ⟨g7, 0, none⟩ (.string us[q].path)).setCell ⟨g7, 1, none⟩ (.string us[q].text)).setCell ⟨g7, 2, none⟩ (.bool us[q].runs)) = X3 at *
        have hY3 : YieldAt Fence.wide (n - 1) Try.prog l #[.agg #[.string ts[p].path, .string ts[p].text, .bool ts[p].runs], .agg #[.string us[q].path, .string us[q].text, .bool us[q].runs]] X3 (fun e W' => (e = .returned (.bool true) ∧ J (pre ++ [(ts[p].path, some ts[p], some us[q])]) W') ∨ (e = .returned (.bool false) ∧ Jx (pre ++ [(ts[p].path, some ts[p], some us[q])]) W')) := hY pre (ts[p].path, some ts[p], some us[q]) _ (hJ pre wr _ hJs hX) ⟨_, hm⟩
        obtain ⟨fn, tmps, assign, body, hy, hR⟩ := hY3
        have HM : Keep (mrgE ts us = pre ++ [(ts[p].path, some ts[p], some us[q])] ++ mrg En.path En.path f (ts.drop (p + 1)) (us.drop (q + 1))) := ⟨hm⟩
        clear hY hJ hM hm hJs hX
        gi_wp2
        refine ⟨fun h => Bool.noConfusion h, hR.mono ?_⟩
        rintro e W3 (⟨rfl, hJ3⟩ | ⟨rfl, hJx3⟩)
        · gi_wp2
          go_roundw
          case rel => exact ⟨p + 1, q + 1, f, pre ++ [(ts[p].path, some ts[p], some us[q])], by congr 1, by congr 1, by omega, by omega, by omega, HM.out, hJ3⟩
          case measure => simp only [intOf]; omega
        · gi_wp2
          refine bodyPost_ret (results_none rfl _ _ _) rfl ?_
          exact ⟨⟨_, rfl⟩, .inr ⟨pre ++ [(ts[p].path, some ts[p], some us[q])], ⟨_, HM.out.symm⟩, hJx3⟩⟩
      · obtain ⟨y, ur, hd, hmr⟩ := frontG_gt (f := f) (by rw [ho]; exact hgt) hnn
        obtain ⟨hql, rfl, rfl⟩ := drop_cons hd
        rw [hmr] at hm
        rw [List.append_cons] at hm
        obtain ⟨b2, o2, rfl, hc2⟩ := e2.at hql
        have hql' : (q : Int) < us.length := by omega
        have ho1 : ¬ o ≤ 0 := by omega
        have ho2 : 0 ≤ o := by omega
        clear hc2 hd hmr hnn ho hend hgt
        by_cases hpl : p < ts.length
        · have hpl' : (p : Int) < ts.length := by omega
          gi_wp2
          rw [← hA]
          refine wpIn_wide.2 ?_
          (haveI := later_any; refine wp_region_later (by kernel_rfl) (by kernel_rfl) ?_; (repeat (go_big_quiet_step (first | (go_at_call 57; exact HF.out _)))); refine wpQuiet_nil ?_; intro _ hwq; obtain ⟨xq, hwq2⟩ := hwq; subst hwq2)
          have hX := hal.trans (xq.kept.mono hal.size)
          obtain ⟨⟨b60, b61, b62⟩, ⟨b70, b71, b72⟩, f6, f7⟩ := two_boxesE hA xq.kept
          have HE1 : Keep (ES wr a ts) := ⟨e1⟩
          have HE2 : Keep (ES wr (some ⟨b2, o2, none⟩) us) := ⟨e2⟩
          have HM1 : Keep (wr.cell? ⟨Ba, 0, none⟩ = some (.slice a ts.length ca)) := ⟨m1⟩
          have HM2 : Keep (wr.cell? ⟨Bb, 0, none⟩ = some (.slice (some ⟨b2, o2, none⟩) us.length cb)) := ⟨m2⟩
          clear hs1 hs2 hes1 hes2 HF cm1 cm2 e1 e2 m1 m2 hA hal
          generalize xq.world = X at *
          clear xq
          obtain ⟨g6, hg6⟩ : ∃ g, g = wr.heap.size := ⟨_, rfl⟩
          obtain ⟨g7, hg7⟩ : ∃ g, g = wr.heap.size + 1 := ⟨_, rfl⟩
          rw [← hg7] at b70 b71 b72 f7 ⊢
          rw [← hg6] at b60 b61 b62 f6 ⊢
          have hn67 : ¬ g6 = g7 := by omega
          have HG : Keep (wr.heap.size ≤ g6 ∧ wr.heap.size ≤ g7) := ⟨by omega⟩
          clear hg6 hg7
          have q2 := cell_later hX HM2.out
          obtain ⟨y0, y1, y2⟩ := (HE2.out.below hX).cells hql
          gi_upto_region 11 with fail
          replace hX := box3_below (.string us[q].path) (.string us[q].text) (.bool us[q].runs) hX HG.out.2
          obtain ⟨v0, v1, v2⟩ := box3_set (.string us[q].path) (.string us[q].text) (.bool us[q].runs) b70 b71 b72
          have hn76 : ¬ g7 = g6 := fun e => hn67 e.symm
          replace b60 := (box3_other (.string us[q].path) (.string us[q].text) (.bool us[q].runs) hn76).trans b60
          replace b61 := (box3_other (.string us[q].path) (.string us[q].text) (.bool us[q].runs) hn76).trans b61
          replace b62 := (box3_other (.string us[q].path) (.string us[q].text) (.bool us[q].runs) hn76).trans b62
          clear b70 b71 b72 y0 y1 y2 q2 f7
          generalize (((X.setCell ⟨g7, 0, none⟩ (.string us[q].path)).setCell ⟨g7, 1, none⟩ (.string us[q].text)).setCell ⟨g7, 2, none⟩ (.bool us[q].runs)) = X3 at *
          have hY3 : YieldAt Fence.wide (n - 1) Try.prog l #[.agg #[.string ⟨#[]⟩, .string ⟨#[]⟩, .bool false], .agg #[.string us[q].path, .string us[q].text, .bool us[q].runs]] X3 (fun e W' => (e = .returned (.bool true) ∧ J (pre ++ [(us[q].path, none, some us[q])]) W') ∨ (e = .returned (.bool false) ∧ Jx (pre ++ [(us[q].path, none, some us[q])]) W')) := hY pre (us[q].path, none, some us[q]) _ (hJ pre wr _ hJs hX) ⟨_, hm⟩
          obtain ⟨fn, tmps, assign, body, hy, hR⟩ := hY3
          have HM : Keep (mrgE ts us = pre ++ [(us[q].path, none, some us[q])] ++ mrg En.path En.path f (ts.drop (p)) (us.drop (q + 1))) := ⟨hm⟩
          clear hY hJ hM hm hJs hX
          gi_wp2
          refine ⟨fun h => Bool.noConfusion h, hR.mono ?_⟩
          rintro e W3 (⟨rfl, hJ3⟩ | ⟨rfl, hJx3⟩)
          · gi_wp2
            go_roundw
            case rel => exact ⟨p, q + 1, f, pre ++ [(us[q].path, none, some us[q])], by congr 1, by congr 1, by omega, by omega, by omega, HM.out, hJ3⟩
            case measure => simp only [intOf]; omega
          · gi_wp2
            refine bodyPost_ret (results_none rfl _ _ _) rfl ?_
            exact ⟨⟨_, rfl⟩, .inr ⟨pre ++ [(us[q].path, none, some us[q])], ⟨_, HM.out.symm⟩, hJx3⟩⟩
        · have hpl' : ¬ (p : Int) < ts.length := by omega
          gi_wp2
          rw [← hA]
          refine wpIn_wide.2 ?_
          (haveI := later_any; refine wp_region_later (by kernel_rfl) (by kernel_rfl) ?_; (repeat (go_big_quiet_step (first | (go_at_call 57; exact HF.out _)))); refine wpQuiet_nil ?_; intro _ hwq; obtain ⟨xq, hwq2⟩ := hwq; subst hwq2)
          have hX := hal.trans (xq.kept.mono hal.size)
          obtain ⟨⟨b60, b61, b62⟩, ⟨b70, b71, b72⟩, f6, f7⟩ := two_boxesE hA xq.kept
          have HE1 : Keep (ES wr a ts) := ⟨e1⟩
          have HE2 : Keep (ES wr (some ⟨b2, o2, none⟩) us) := ⟨e2⟩
          have HM1 : Keep (wr.cell? ⟨Ba, 0, none⟩ = some (.slice a ts.length ca)) := ⟨m1⟩
          have HM2 : Keep (wr.cell? ⟨Bb, 0, none⟩ = some (.slice (some ⟨b2, o2, none⟩) us.length cb)) := ⟨m2⟩
          clear hs1 hs2 hes1 hes2 HF cm1 cm2 e1 e2 m1 m2 hA hal
          generalize xq.world = X at *
          clear xq
          obtain ⟨g6, hg6⟩ : ∃ g, g = wr.heap.size := ⟨_, rfl⟩
          obtain ⟨g7, hg7⟩ : ∃ g, g = wr.heap.size + 1 := ⟨_, rfl⟩
          rw [← hg7] at b70 b71 b72 f7 ⊢
          rw [← hg6] at b60 b61 b62 f6 ⊢
          have hn67 : ¬ g6 = g7 := by omega
          have HG : Keep (wr.heap.size ≤ g6 ∧ wr.heap.size ≤ g7) := ⟨by omega⟩
          clear hg6 hg7
          have q2 := cell_later hX HM2.out
          obtain ⟨y0, y1, y2⟩ := (HE2.out.below hX).cells hql
          gi_upto_region 11 with fail
          replace hX := box3_below (.string us[q].path) (.string us[q].text) (.bool us[q].runs) hX HG.out.2
          obtain ⟨v0, v1, v2⟩ := box3_set (.string us[q].path) (.string us[q].text) (.bool us[q].runs) b70 b71 b72
          have hn76 : ¬ g7 = g6 := fun e => hn67 e.symm
          replace b60 := (box3_other (.string us[q].path) (.string us[q].text) (.bool us[q].runs) hn76).trans b60
          replace b61 := (box3_other (.string us[q].path) (.string us[q].text) (.bool us[q].runs) hn76).trans b61
          replace b62 := (box3_other (.string us[q].path) (.string us[q].text) (.bool us[q].runs) hn76).trans b62
          clear b70 b71 b72 y0 y1 y2 q2 f7
          generalize (((X.setCell ⟨g7, 0, none⟩ (.string us[q].path)).setCell ⟨g7, 1, none⟩ (.string us[q].text)).setCell ⟨g7, 2, none⟩ (.bool us[q].runs)) = X3 at *
          have hY3 : YieldAt Fence.wide (n - 1) Try.prog l #[.agg #[.string ⟨#[]⟩, .string ⟨#[]⟩, .bool false], .agg #[.string us[q].path, .string us[q].text, .bool us[q].runs]] X3 (fun e W' => (e = .returned (.bool true) ∧ J (pre ++ [(us[q].path, none, some us[q])]) W') ∨ (e = .returned (.bool false) ∧ Jx (pre ++ [(us[q].path, none, some us[q])]) W')) := hY pre (us[q].path, none, some us[q]) _ (hJ pre wr _ hJs hX) ⟨_, hm⟩
          obtain ⟨fn, tmps, assign, body, hy, hR⟩ := hY3
          have HM : Keep (mrgE ts us = pre ++ [(us[q].path, none, some us[q])] ++ mrg En.path En.path f (ts.drop (p)) (us.drop (q + 1))) := ⟨hm⟩
          clear hY hJ hM hm hJs hX
          gi_wp2
          refine ⟨fun h => Bool.noConfusion h, hR.mono ?_⟩
          rintro e W3 (⟨rfl, hJ3⟩ | ⟨rfl, hJx3⟩)
          · gi_wp2
            go_roundw
            case rel => exact ⟨p, q + 1, f, pre ++ [(us[q].path, none, some us[q])], by congr 1, by congr 1, by omega, by omega, by omega, HM.out, hJ3⟩
            case measure => simp only [intOf]; omega
          · gi_wp2
            refine bodyPost_ret (results_none rfl _ _ _) rfl ?_
            exact ⟨⟨_, rfl⟩, .inr ⟨pre ++ [(us[q].path, none, some us[q])], ⟨_, HM.out.symm⟩, hJx3⟩⟩

set_option maxHeartbeats 400000 in
theorem sideE_any (a b : Option Addr) (n m ca cb : Nat) (w : World) :
    Calls Try.prog 30 #[.slice a n ca, .slice b m cb] w fun e w' => e = .returned (.func (.func 56) #[] #[.pointer (some ⟨w.heap.size, 0, none⟩), .pointer (some ⟨w.heap.size + 1, 0, none⟩)]) ∧ w' = (w.alloc (.cells #[.slice a n ca] 23)).alloc (.cells #[.slice b m cb] 23) := by
  go_enter Try.func30, Try.ntmps30
  go_wp2
  go_ret
  exact ⟨by simp, rfl⟩
end Go.Proofs.Ytjlflmbifeocbaa

namespace Go.Proofs.Ytjlflmbifeocbaa
open Go.RowKit

def isZ (e : En) : Bool := (e.path.toList == ([] : List UInt8)) && (e.text.toList == ([] : List UInt8)) && !e.runs
def fileE (e : En) : Fl := ⟨!isZ e, e.text, e.runs⟩

set_option maxRecDepth 100000 in
set_option maxHeartbeats 4000000 in
theorem fileE_any (e : En) (w : World) : Calls Try.prog 33 #[.agg #[.string e.path, .string e.text, .bool e.runs]] w fun r w' => r = .returned (.agg #[.bool (fileE e).there, .string (fileE e).text, .bool (fileE e).runs]) ∧ Below w.heap.size w w' := by
  obtain ⟨p, t, r⟩ := e
  have hbw : Below w.heap.size w ((w.alloc (.cells #[.string p, .string t, .bool r] 57)).alloc (.cells #[.bool false, .string ⟨#[]⟩, .bool false] 54)) := ((Below.refl _ _).alloc (Nat.le_refl _) _).alloc (by simp) _
  have c0 : ((w.alloc (.cells #[.string p, .string t, .bool r] 57)).alloc (.cells #[.bool false, .string ⟨#[]⟩, .bool false] 54)).cell? ⟨w.heap.size, 0, none⟩ = some (.string p) := by simp [go_sem]
  have c1 : ((w.alloc (.cells #[.string p, .string t, .bool r] 57)).alloc (.cells #[.bool false, .string ⟨#[]⟩, .bool false] 54)).cell? ⟨w.heap.size, 1, none⟩ = some (.string t) := by simp [go_sem]
  have c2 : ((w.alloc (.cells #[.string p, .string t, .bool r] 57)).alloc (.cells #[.bool false, .string ⟨#[]⟩, .bool false] 54)).cell? ⟨w.heap.size, 2, none⟩ = some (.bool r) := by simp [go_sem]
  have r0 : ((w.alloc (.cells #[.string p, .string t, .bool r] 57)).alloc (.cells #[.bool false, .string ⟨#[]⟩, .bool false] 54)).cell? ⟨w.heap.size + 1, 0, none⟩ = some (.bool false) := by simp [go_sem]
  have r1 : ((w.alloc (.cells #[.string p, .string t, .bool r] 57)).alloc (.cells #[.bool false, .string ⟨#[]⟩, .bool false] 54)).cell? ⟨w.heap.size + 1, 1, none⟩ = some (.string ⟨#[]⟩) := by simp [go_sem]
  have r2 : ((w.alloc (.cells #[.string p, .string t, .bool r] 57)).alloc (.cells #[.bool false, .string ⟨#[]⟩, .bool false] 54)).cell? ⟨w.heap.size + 1, 2, none⟩ = some (.bool false) := by simp [go_sem]
  have rf : ∀ j, ((w.alloc (.cells #[.string p, .string t, .bool r] 57)).alloc (.cells #[.bool false, .string ⟨#[]⟩, .bool false] 54)).frozen? ⟨w.heap.size + 1, j, none⟩ = false := fun j => by simp [go_sem]
  go_enter Try.func33, Try.ntmps33
  go_upto_region 1 with fail
  generalize (w.alloc (.cells #[.string p, .string t, .bool r] 57)).alloc (.cells #[.bool false, .string ⟨#[]⟩, .bool false] 54) = W at *
  have HL : Keep (w.heap.size ≤ w.heap.size + 1) := ⟨by omega⟩
  obtain ⟨rb, hrb⟩ : ∃ rb, rb = w.heap.size + 1 := ⟨_, rfl⟩
  obtain ⟨tb, htb⟩ : ∃ tb, tb = w.heap.size := ⟨_, rfl⟩
  rw [← hrb] at r0 r1 r2 rf ⊢
  rw [← htb] at c0 c1 c2 ⊢
  have HO : Keep (w.heap.size ≤ rb) := ⟨by omega⟩
  have nt : ¬ tb = rb := by omega
  have nt2 : ¬ rb = tb := by omega
  clear hrb htb HL
  have hemp : ∀ z : ByteArray, z.toList = [] → z = ⟨#[]⟩ := fun z h => WideShapes.bytes_inj (by rw [← Lib.toList_data, h])
  cases hz : isZ ⟨p, t, r⟩ with
  | true =>
    obtain ⟨⟨h1, h2⟩, h3⟩ : (p.toList = [] ∧ t.toList = []) ∧ r = false := by simpa [isZ] using hz
    obtain rfl := hemp p h1
    obtain rfl := hemp t h2
    subst h3
    have HZ : Keep (fileE ⟨⟨#[]⟩, ⟨#[]⟩, false⟩ = ⟨false, ⟨#[]⟩, false⟩) := ⟨by unfold fileE; rw [hz]; rfl⟩
    clear h1 h2 hz hemp
    go_region
    all_goals (try go_wp2)
    all_goals
      refine bodyPost_ret (v := .agg #[.bool false, .string ⟨#[]⟩, .bool false]) ?_ rfl ⟨by rw [HZ.out], ?_⟩
      · go_light
        simp [results, Try.results33, go_sem, r0, r1, r2]
      · repeat (first | ((with_reducible refine Below.setCell ?_ ?hq2 _); (case hq2 => exact HO.out)) | (with_reducible refine Below.drew ?_))
        exact hbw

  | false =>
    have HZ : Keep (fileE ⟨p, t, r⟩ = ⟨true, t, r⟩) := ⟨by unfold fileE; rw [hz]; rfl⟩
    by_cases h1 : p.toList = []
    · obtain rfl := hemp p h1
      by_cases h2 : t.toList = []
      · obtain rfl := hemp t h2
        cases r with
        | false =>
          exfalso
          rw [Bool.eq_false_iff] at hz
          exact hz (by simp [isZ, h1])
        | true =>
          clear hz h1 h2 hemp
          go_region
          all_goals (try go_wp2)
          all_goals
            refine bodyPost_ret (v := .agg #[.bool true, .string ⟨#[]⟩, .bool true]) ?_ rfl ⟨by rw [HZ.out], ?_⟩
            · go_light
              simp [results, Try.results33, go_sem, r0, r1, r2]
            · repeat (first | ((with_reducible refine Below.setCell ?_ ?hq2 _); (case hq2 => exact HO.out)) | (with_reducible refine Below.drew ?_))
              exact hbw

      · have ht : (t.toList == ([] : List UInt8)) = false := by simpa using h2
        clear hz h1 h2 hemp
        go_region
        all_goals (try go_wp2)
        all_goals
          refine bodyPost_ret (v := .agg #[.bool true, .string t, .bool r]) ?_ rfl ⟨by rw [HZ.out], ?_⟩
          · go_light
            simp [results, Try.results33, go_sem, r0, r1, r2]
          · repeat (first | ((with_reducible refine Below.setCell ?_ ?hq2 _); (case hq2 => exact HO.out)) | (with_reducible refine Below.drew ?_))
            exact hbw

    · have hp : (p.toList == ([] : List UInt8)) = false := by simpa using h1
      clear hz h1 hemp
      go_region
      all_goals (try go_wp2)
      all_goals
        refine bodyPost_ret (v := .agg #[.bool true, .string t, .bool r]) ?_ rfl ⟨by rw [HZ.out], ?_⟩
        · go_light
          simp [results, Try.results33, go_sem, r0, r1, r2]
        · repeat (first | ((with_reducible refine Below.setCell ?_ ?hq2 _); (case hq2 => exact HO.out)) | (with_reducible refine Below.drew ?_))
          exact hbw
end Go.Proofs.Ytjlflmbifeocbaa

namespace Go.Proofs.Ytjlflmbifeocbaa
open Go.RowKit

def noFl : Fl := ⟨false, ⟨#[]⟩, false⟩
def atL (ts : List En) (p : ByteArray) : Fl := match ts.find? (fun e => e.path.toList == p.toList) with
  | some e => ⟨true, e.text, e.runs⟩
  | none => noFl
theorem atL_hit {ts : List En} {p : ByteArray} {k : Nat} (hk : k < ts.length) (hno : ∀ x ∈ ts.take k, (x.path.toList == p.toList) = false) (h : (ts[k].path.toList == p.toList) = true) : atL ts p = ⟨true, ts[k].text, ts[k].runs⟩ := by
  have h1 : ts.find? (fun e => e.path.toList == p.toList) = some ts[k] := by
    rw [List.find?_eq_some_iff_append]
    refine ⟨h, ts.take k, ts.drop (k + 1), ?_, fun a ha => by rw [hno a ha]; rfl⟩
    conv => lhs; rw [← List.take_append_drop k ts]
    rw [List.drop_eq_getElem_cons hk]
  unfold atL
  rw [h1]
theorem atL_none {ts : List En} {p : ByteArray} (hno : ∀ x ∈ ts, (x.path.toList == p.toList) = false) : atL ts p = noFl := by
  have h1 : ts.find? (fun e => e.path.toList == p.toList) = none := by
    rw [List.find?_eq_none]
    intro x hx
    rw [hno x hx]; simp
  unfold atL
  rw [h1]

set_option maxRecDepth 100000 in
set_option maxHeartbeats 4000000 in
theorem l6At_any (a : Option Addr) (cap : Nat) (ts : List En) (p : ByteArray) (w : World) (hts : ES w a ts) (hn : ts.length ≤ 1048576) :
    Calls Try.prog 35 #[.agg #[.slice a ts.length cap], .string p] w fun e w' => e = .returned (flV (atL ts p)) ∧ Below w.heap.size w w' := by
  have hal : Below w.heap.size w ((w.alloc (.cells #[.slice a ts.length cap] 25)).alloc (.cells #[.bool false, .string ⟨#[]⟩, .bool false] 54)) := ((Below.refl _ _).alloc (Nat.le_refl _) _).alloc (by simp) _
  have t0 : ((w.alloc (.cells #[.slice a ts.length cap] 25)).alloc (.cells #[.bool false, .string ⟨#[]⟩, .bool false] 54)).cell? ⟨w.heap.size, 0, none⟩ = some (.slice a ts.length cap) := by simp [go_sem]
  have r0 : ((w.alloc (.cells #[.slice a ts.length cap] 25)).alloc (.cells #[.bool false, .string ⟨#[]⟩, .bool false] 54)).cell? ⟨w.heap.size + 1, 0, none⟩ = some (.bool false) := by simp [go_sem]
  have r1 : ((w.alloc (.cells #[.slice a ts.length cap] 25)).alloc (.cells #[.bool false, .string ⟨#[]⟩, .bool false] 54)).cell? ⟨w.heap.size + 1, 1, none⟩ = some (.string ⟨#[]⟩) := by simp [go_sem]
  have r2 : ((w.alloc (.cells #[.slice a ts.length cap] 25)).alloc (.cells #[.bool false, .string ⟨#[]⟩, .bool false] 54)).cell? ⟨w.heap.size + 1, 2, none⟩ = some (.bool false) := by simp [go_sem]
  have rf : ∀ j, ((w.alloc (.cells #[.slice a ts.length cap] 25)).alloc (.cells #[.bool false, .string ⟨#[]⟩, .bool false] 54)).frozen? ⟨w.heap.size + 1, j, none⟩ = false := fun j => by simp [go_sem]
  have hE := hts.below hal
  go_enter Try.func35, Try.ntmps35
  go_wp2_with fail
  generalize (w.alloc (.cells #[.slice a ts.length cap] 25)).alloc (.cells #[.bool false, .string ⟨#[]⟩, .bool false] 54) = W at *
  obtain ⟨rb, hrb⟩ : ∃ rb, rb = w.heap.size + 1 := ⟨_, rfl⟩
  obtain ⟨tb, htb⟩ : ∃ tb, tb = w.heap.size := ⟨_, rfl⟩
  rw [← hrb] at r0 r1 r2 rf ⊢
  rw [← htb] at t0 ⊢
  have HO : Keep (w.heap.size ≤ rb ∧ tb ≠ rb) := ⟨by omega⟩
  have nt : ¬ tb = rb := by omega
  have nt2 : ¬ rb = tb := by omega
  clear hrb htb hts
  go_loopw [5] (fun i wr => ∃ k : Nat, i = .int .i64 k ∧ k ≤ ts.length ∧ Keep (∀ x ∈ ts.take k, (x.path.toList == p.toList) = false) ∧ W = wr) (fun i _ => ts.length - (intOf i).toNat)
  case atStart => exact ⟨0, rfl, Nat.zero_le _, ⟨fun x hx => by simp at hx⟩, rfl⟩
  case round =>
    obtain ⟨k, rfl, hk, HNO, rfl⟩ := hrel
    by_cases hlt : k < ts.length
    · have hlt' : (k : Int) < ts.length := by omega
      obtain ⟨b, off, rfl, hc⟩ := hE.at hlt
      obtain ⟨x0, x1, x2⟩ := hc k hlt
      clear hc
      cases hq : (ts[k].path.toList == p.toList) with
      | true =>
        have HA : Keep (atL ts p = ⟨true, ts[k].text, ts[k].runs⟩) := ⟨atL_hit hlt HNO.out hq⟩
        have hbe : Below w.heap.size w W := hal
        go_upto_region 5 with fail
        go_region
        all_goals (try go_wp2)
        all_goals
          refine bodyPost_ret (v := flV ⟨true, ts[k].text, ts[k].runs⟩) ?_ rfl ⟨by rw [HA.out], ?_⟩
          · go_light
            simp [results, Try.results35, go_sem, flV, r0, r1, r2]
          · repeat (first | ((with_reducible refine Below.setCell ?_ ?hq2 _); (case hq2 => exact HO.out.1)) | (with_reducible refine Below.drew ?_))
            exact hbe
      | false =>
        have HN2 : Keep (∀ x ∈ ts.take (k + 1), (x.path.toList == p.toList) = false) := ⟨fun x hx => by
          rw [List.take_succ_eq_append_getElem hlt] at hx
          rcases List.mem_append.1 hx with h | h
          · exact HNO.out x h
          · rw [List.mem_singleton.1 h]; exact hq⟩
        go_wp2
        go_roundw
        case rel => exact ⟨k + 1, by congr 1, hlt, HN2, trivial⟩
        case measure => simp only [intOf]; omega
    · obtain rfl : k = ts.length := by omega
      have HA : Keep (atL ts p = noFl) := ⟨atL_none (by have := HNO.out; rw [List.take_length] at this; exact this)⟩
      go_wp2
      refine bodyPost_ret (v := flV noFl) ?_ rfl ⟨by rw [HA.out], ?_⟩
      · go_light
        simp [results, Try.results35, go_sem, flV, noFl, r0, r1, r2]
      · repeat (first | ((with_reducible refine Below.setCell ?_ ?hq2 _); (case hq2 => exact HO.out.1)) | (with_reducible refine Below.drew ?_))
        exact hal
end Go.Proofs.Ytjlflmbifeocbaa

namespace Go.Proofs.Ytjlflmbifeocbaa
open Go.RowKit

theorem path_ne0 {s : ByteArray} (h : pathOk pathB s = true) : (s.toList == ([] : List UInt8)) = false := by
  rw [Bool.eq_false_iff]
  intro e
  have e1 : s = ⟨#[]⟩ := WideShapes.bytes_inj (by rw [← Lib.toList_data, (by simpa using e : s.toList = [])])
  subst e1
  revert h
  decide
theorem valid_enF {ts : List En} (h : ValidTs ts) {e : En} (he : e ∈ ts) : enOk e = true := by
  obtain ⟨i, hi, rfl⟩ := List.getElem_of_mem he
  obtain ⟨_, h1, _⟩ := h.2 i hi
  exact h1
theorem valid_path {ts : List En} (h : ValidTs ts) {e : En} (he : e ∈ ts) : (e.path.toList == ([] : List UInt8)) = false := by
  have h1 := valid_enF h he
  simp only [enOk, Bool.and_eq_true] at h1
  exact path_ne0 h1.1
theorem fileE_zero : fileE zeroE = noFl := by
  unfold fileE zeroE noFl
  have : isZ ⟨⟨#[]⟩, ⟨#[]⟩, false⟩ = true := by simp [isZ]
  rw [this]
  rfl
theorem fileE_some {e : En} (h : (e.path.toList == ([] : List UInt8)) = false) : fileE e = ⟨true, e.text, e.runs⟩ := by
  unfold fileE isZ
  rw [h]
  rfl
theorem fileE_at {ts : List En} (h : ValidTs ts) (p : ByteArray) : fileE ((fnd En.path ts p).getD zeroE) = atL ts p := by
  unfold atL
  show _ = match fnd En.path ts p with | some e => (⟨true, e.text, e.runs⟩ : Fl) | none => noFl
  cases hf : fnd En.path ts p with
  | none => exact fileE_zero
  | some e => exact fileE_some (valid_path h (fnd_some hf).1)
end Go.Proofs.Ytjlflmbifeocbaa

namespace Go.Proofs.Ytjlflmbifeocbaa
open Go.RowKit

theorem ss_of_rowM {w : World} {base : Nat} {ad : Option Addr} {cp : Nat} {ss : List ByteArray} (h : w.ownsRow base 9 1 (.slice ad ss.length cp) ss.length (ss.map .string)) : SS w ad ss := by
  by_cases h0 : ss = []
  · exact .inl h0
  · right
    obtain ⟨g, c, hv, _⟩ := h.form (List.length_pos_iff.2 h0)
    cases hv
    exact ⟨g, 0, rfl, fun i hi => by rw [Nat.zero_add, h.cellAt i (by simpa using hi), List.getElem?_map, List.getElem?_eq_getElem hi]; rfl⟩
def NamesPost (us : List ByteArray) (w : World) (e : Ending) (w' : World) : Prop :=
  ∃ ad cp, e = .returned (.slice ad us.length cp) ∧ w'.ownsRow w.heap.size 9 1 (.slice ad us.length cp) us.length (us.map .string) ∧ Below w.heap.size w w'
/-- A row of names in the making. -/
structure NmR (w : World) (v : Value) (us : List ByteArray) (W : World) : Prop where
  row : W.ownsRow w.heap.size 9 1 v us.length (us.map .string)
  bw : Below w.heap.size w W
theorem NmR.app {w : World} {v v' : Value} {us : List ByteArray} {W W' : World} {x : ByteArray} {o : Obj} (h : NmR w v us W) (hg : (W.alloc o).grownBy W' v.ownBlock) (ho : W'.ownsRow w.heap.size 9 1 v' (us.length + 1) (us.map .string ++ [.string x])) : NmR w v' (us ++ [x]) W' :=
  ⟨by rw [List.length_append, List.map_append]; exact ho, (h.bw.alloc h.bw.size _).grown hg (by have := h.bw.size; simp; omega) (owns_base h.row)⟩

set_option maxRecDepth 100000 in
set_option maxHeartbeats 4000000 in
theorem l6Name_any (a : Option Addr) (cap : Nat) (ls : List ByteArray) (s : ByteArray) (w : World) (hss : SS w a ls) (hn : ls.length ≤ 1048576) :
    Calls Try.prog 47 #[.slice a ls.length cap, .string s] w (NamesPost (nameL ls s) w) := by
  obtain ⟨i0, hi, hz0, hz1, hz2⟩ := info_parts Try.infoStr
  have hnil : NmR w (.slice (some ⟨w.heap.size, 0, none⟩) 0 0) [] (w.alloc (.cells #[] 9)) := ⟨⟨by simp, .inr ⟨w.heap.size, 0, #[], rfl, Nat.le_refl _, heap_alloc_new w _, Nat.le_refl _, by unfold maxLen; omega, rfl, by simp⟩⟩, (Below.refl _ _).alloc (Nat.le_refl _) _⟩
  go_enter Try.func47, Try.ntmps47
  go_wp2
  go_loopw [5, 6, 7] (fun v dn i wr => ∃ k : Nat, i = .int .i64 k ∧ k ≤ ls.length ∧ dn = .bool (foldN s (ls.take k)).2 ∧ NmR w v (foldN s (ls.take k)).1 wr) (fun _ _ i _ => ls.length - (intOf i).toNat)
  case atStart => exact ⟨0, rfl, Nat.zero_le _, rfl, hnil⟩
  case round =>
    obtain ⟨k, rfl, hk, rfl, hR⟩ := hrel
    have hfl := (foldN_len s ls k hk).2
    have hbs := hR.bw.size
    by_cases hlt : k < ls.length
    · have hlt' : (k : Int) < ls.length := by omega
      obtain ⟨b, off, rfl, hcl⟩ := (hss.below hR.bw).at hlt
      have hck := hcl k hlt
      have HN : Keep (foldN s (ls.take (k + 1)) = stepN s (foldN s (ls.take k)) ls[k]) := ⟨foldN_take hlt⟩
      have hbm : ∀ W, Below w.heap.size w W → W.cell? ⟨b, off + k, none⟩ = some (.string ls[k]) := fun W hW => by
        obtain ⟨b2, off2, e2, h2⟩ := (hss.below hW).at hlt
        cases e2
        exact h2 k hlt
      clear hcl
      generalize hx : ls[k] = x at *
      clear hx
      generalize foldN s (ls.take k) = r at *
      obtain ⟨us, dn⟩ := r
      dsimp only at hR hfl HN ⊢
      cases dn with
      | true =>
        by_cases hxs : x = s
        · have hne : (x.toList != s.toList) = false := by rw [hxs]; simp
          have heq : (x.toList == s.toList) = true := by rw [hxs]; simp
          have HF : Keep (foldN s (ls.take (k + 1)) = (us, true)) := ⟨by rw [HN.out]; unfold stepN; rw [if_pos rfl, if_neg (by rw [hne]; simp)]⟩
          clear hxs
          go_wp2
          go_roundw
          case rel => exact ⟨k + 1, by congr 1, by omega, by rw [HF.out], by rw [HF.out]; exact hR⟩
          case measure => simp only [intOf]; omega
        · have hne : (x.toList != s.toList) = true := ne_toList.2 hxs
          have heq : (x.toList == s.toList) = false := by simpa using hne
          have HF : Keep (foldN s (ls.take (k + 1)) = (us ++ [x], true)) := ⟨by rw [HN.out]; unfold stepN; rw [if_pos rfl, if_pos hne]⟩
          clear hxs
          go_wp2_with (first | (at_builtin; refine wpList_append_own _ rfl _ _ 69 rfl w.heap.size 9 i0 _ 1 16 Try.underlying69 hi hz0 hz1 hz2 rfl (by decide) _ _ _ rfl (hR.row.alloc _) ⟨wr.heap.size, 0, none⟩ 1 1 [.string x] rfl rfl (cell_one_new _ _ _) (by simp [Value.oneCell']) (by unfold maxLen; omega) (by omega) (by have := hR.bw.size; simp; omega) ?_; intro v2 w2 ho2 hg2 _; have hR2 := hR.app (x := x) hg2 ho2))
          go_roundw
          case rel => exact ⟨k + 1, by congr 1, by omega, by rw [HF.out], by rw [HF.out]; exact hR2⟩
          case measure => simp only [intOf]; omega
      | false =>
        by_cases hl : Op.bytesLess x.toList s.toList = true
        · have hxs : x ≠ s := less_ne hl
          have hne : (x.toList != s.toList) = true := ne_toList.2 hxs
          have heq : (x.toList == s.toList) = false := by simpa using hne
          have hgl : Op.bytesLess s.toList x.toList = false := by
            cases hq : Op.bytesLess s.toList x.toList with
            | false => rfl
            | true => have := less_trans hl hq; rw [less_irrefl] at this; cases this
          have HF : Keep (foldN s (ls.take (k + 1)) = (us ++ [x], false)) := ⟨by rw [HN.out]; unfold stepN; rw [if_neg (by simp), if_pos hl]⟩
          clear hxs
          go_wp2_with (first | (at_builtin; refine wpList_append_own _ rfl _ _ 69 rfl w.heap.size 9 i0 _ 1 16 Try.underlying69 hi hz0 hz1 hz2 rfl (by decide) _ _ _ rfl (hR.row.alloc _) ⟨wr.heap.size, 0, none⟩ 1 1 [.string x] rfl rfl (cell_one_new _ _ _) (by simp [Value.oneCell']) (by unfold maxLen; omega) (by omega) (by have := hR.bw.size; simp; omega) ?_; intro v2 w2 ho2 hg2 _; have hR2 := hR.app (x := x) hg2 ho2))
          go_roundw
          case rel => exact ⟨k + 1, by congr 1, by omega, by rw [HF.out], by rw [HF.out]; exact hR2⟩
          case measure => simp only [intOf]; omega
        · replace hl : Op.bytesLess x.toList s.toList = false := by simpa using hl
          by_cases hxs : x = s
          · have hne : (x.toList != s.toList) = false := by rw [hxs]; simp
            have heq : (x.toList == s.toList) = true := by rw [hxs]; simp
            have HF : Keep (foldN s (ls.take (k + 1)) = (us ++ [s], true)) := ⟨by rw [HN.out]; unfold stepN; rw [if_neg (by simp), if_neg (by rw [hl]; simp), if_neg (by rw [hne]; simp)]⟩
            clear hxs
            go_wp2_with (first | (at_builtin; refine wpList_append_own _ rfl _ _ 69 rfl w.heap.size 9 i0 _ 1 16 Try.underlying69 hi hz0 hz1 hz2 rfl (by decide) _ _ _ rfl (hR.row.alloc _) ⟨wr.heap.size, 0, none⟩ 1 1 [.string s] rfl rfl (cell_one_new _ _ _) (by simp [Value.oneCell']) (by unfold maxLen; omega) (by omega) (by have := hR.bw.size; simp; omega) ?_; intro v2 w2 ho2 hg2 _; have hR2 := hR.app (x := s) hg2 ho2; have ck2 := hbm w2 hR2.bw; have hl2 : (us ++ [s]).length ≤ 1048579 := (by simp; omega)))
            go_roundw
            case rel => exact ⟨k + 1, by congr 1, by omega, by rw [HF.out], by rw [HF.out]; exact hR2⟩
            case measure => simp only [intOf]; omega
          · have hne : (x.toList != s.toList) = true := ne_toList.2 hxs
            have heq : (x.toList == s.toList) = false := by simpa using hne
            have hgl := less_of hl hxs
            have HF : Keep (foldN s (ls.take (k + 1)) = (us ++ [s] ++ [x], true)) := ⟨by rw [HN.out]; unfold stepN; rw [if_neg (by simp), if_neg (by rw [hl]; simp), if_pos hne]⟩
            have hul : us.length ≤ 1048578 := by omega
            clear hxs
            go_wp2_with (first | (at_builtin; refine wpList_append_own _ rfl _ _ 69 rfl w.heap.size 9 i0 _ 1 16 Try.underlying69 hi hz0 hz1 hz2 rfl (by decide) _ _ _ rfl (hR2.row.alloc _) ⟨w2.heap.size, 0, none⟩ 1 1 [.string x] rfl rfl (cell_one_new _ _ _) (by simp [Value.oneCell']) (by unfold maxLen; omega) (by omega) (by have := hR2.bw.size; simp; omega) ?_; intro v3 w3 ho3 hg3 _; have hR3 := hR2.app (x := x) hg3 ho3) | (at_builtin; refine wpList_append_own _ rfl _ _ 69 rfl w.heap.size 9 i0 _ 1 16 Try.underlying69 hi hz0 hz1 hz2 rfl (by decide) _ _ _ rfl (hR.row.alloc _) ⟨wr.heap.size, 0, none⟩ 1 1 [.string s] rfl rfl (cell_one_new _ _ _) (by simp [Value.oneCell']) (by unfold maxLen; omega) (by omega) (by have := hR.bw.size; simp; omega) ?_; intro v2 w2 ho2 hg2 _; have hR2 := hR.app (x := s) hg2 ho2; have ck2 := hbm w2 hR2.bw; have hl2 : (us ++ [s]).length ≤ 1048579 := (by simp; omega)))
            go_roundw
            case rel => exact ⟨k + 1, by congr 1, by omega, by rw [HF.out], by rw [HF.out]; exact hR3⟩
            case measure => simp only [intOf]; omega
    · obtain rfl : k = ls.length := by omega
      rw [List.take_length] at hR hfl
      have HNL : Keep (nameL ls s = if (foldN s ls).2 = true then (foldN s ls).1 else (foldN s ls).1 ++ [s]) := ⟨rfl⟩
      rw [List.take_length]
      generalize foldN s ls = r at *
      obtain ⟨us, dn⟩ := r
      dsimp only at hR hfl HNL ⊢
      cases dn with
      | true =>
        rw [if_pos rfl] at HNL
        obtain ⟨ad, cp, rfl⟩ := owns_slice hR.row
        go_wp2
        go_ret
        rw [HNL.out]
        exact ⟨ad, cp, rfl, hR.row, hR.bw⟩
      | false =>
        rw [if_neg (by simp)] at HNL
        go_wp2_with (first | (at_builtin; refine wpList_append_own _ rfl _ _ 69 rfl w.heap.size 9 i0 _ 1 16 Try.underlying69 hi hz0 hz1 hz2 rfl (by decide) _ _ _ rfl (hR.row.alloc _) ⟨wr.heap.size, 0, none⟩ 1 1 [.string s] rfl rfl (cell_one_new _ _ _) (by simp [Value.oneCell']) (by unfold maxLen; omega) (by omega) (by have := hR.bw.size; simp; omega) ?_; intro v2 w2 ho2 hg2 _; have hR2 := hR.app (x := s) hg2 ho2))
        obtain ⟨ad, cp, rfl⟩ := owns_slice hR2.row
        go_ret
        rw [HNL.out]
        exact ⟨ad, cp, rfl, hR2.row, hR2.bw⟩
end Go.Proofs.Ytjlflmbifeocbaa

namespace Go.Proofs.Ytjlflmbifeocbaa
open Go.RowKit

def addP (l : List ByteArray) (ts : List En) : List ByteArray := (ts.map fun e => e.path).foldl nameL l
def pathsL (tss : List (List En)) : List ByteArray := tss.foldl addP []
theorem addP_take {l : List ByteArray} {ts : List En} {j : Nat} (hj : j < ts.length) : addP l (ts.take (j + 1)) = nameL (addP l (ts.take j)) ts[j].path := by
  unfold addP
  rw [List.take_succ_eq_append_getElem hj, List.map_append, List.foldl_append]
  rfl
theorem addP_len (l : List ByteArray) (ts : List En) : ∀ j, j ≤ ts.length → (addP l (ts.take j)).length ≤ l.length + j
  | 0, _ => by simp [addP]
  | j + 1, hj => by
    have h := addP_len l ts j (by omega)
    rw [addP_take (by omega)]
    have := nameL_len (addP l (ts.take j)) ts[j].path
    omega
theorem pathsL_take {tss : List (List En)} {k : Nat} (hk : k < tss.length) : pathsL (tss.take (k + 1)) = addP (pathsL (tss.take k)) tss[k] := by
  unfold pathsL
  rw [List.take_succ_eq_append_getElem hk, List.foldl_append]
  rfl
theorem addP_asc {l : List ByteArray} (hl : AscN l) : ∀ ts : List En, AscN (addP l ts) ∧ ∀ y, y ∈ addP l ts ↔ y ∈ l ∨ ∃ e ∈ ts, e.path = y := fun ts => by
  have key : ∀ j, j ≤ ts.length → AscN (addP l (ts.take j)) ∧ ∀ y, y ∈ addP l (ts.take j) ↔ y ∈ l ∨ ∃ e ∈ ts.take j, e.path = y := by
    intro j
    induction j with
    | zero => intro _; exact ⟨by simpa [addP] using hl, fun y => by simp [addP]⟩
    | succ j ih =>
      intro hj
      obtain ⟨h1, h2⟩ := ih (by omega)
      obtain ⟨h3, h4⟩ := nameL_asc (s := ts[j].path) h1
      rw [addP_take (by omega)]
      refine ⟨h3, fun y => ?_⟩
      rw [h4, h2, List.take_succ_eq_append_getElem (by omega)]
      constructor
      · rintro ((h | ⟨e, he, h⟩) | h)
        · exact .inl h
        · exact .inr ⟨e, List.mem_append.2 (.inl he), h⟩
        · exact .inr ⟨ts[j], List.mem_append.2 (.inr (by simp)), h.symm⟩
      · rintro (h | ⟨e, he, h⟩)
        · exact .inl (.inl h)
        · rcases List.mem_append.1 he with h5 | h5
          · exact .inl (.inr ⟨e, h5, h⟩)
          · rw [List.mem_singleton.1 h5] at h; exact .inr h.symm
  have h := key ts.length (Nat.le_refl _)
  rw [List.take_length] at h
  exact h

/-- Trees in a row of boxes. -/
def TsAt (w : World) (b off : Nat) (xs : List (Option Addr × Nat × List En)) : Prop :=
  ∀ i (h : i < xs.length), w.cell? ⟨b, off + i, none⟩ = some (.slice xs[i].1 xs[i].2.2.length xs[i].2.1) ∧ ES w xs[i].1 xs[i].2.2
theorem TsAt.below {w w' : World} {b off : Nat} {xs : List (Option Addr × Nat × List En)} (h : TsAt w b off xs) (hb : Below w.heap.size w w') : TsAt w' b off xs := fun i hi => ⟨cell_later hb (h i hi).1, (h i hi).2.below hb⟩
def tss (xs : List (Option Addr × Nat × List En)) : List (List En) := xs.map fun x => x.2.2

set_option maxRecDepth 100000 in
set_option maxHeartbeats 4000000 in
theorem l6Paths_any (b off cap : Nat) (xs : List (Option Addr × Nat × List En)) (w : World) (h : TsAt w b off xs) (hx : xs.length ≤ 10) (hn : ∀ x ∈ xs, x.2.2.length ≤ 1000) :
    Calls Try.prog 34 #[.slice (some ⟨b, off, none⟩) xs.length cap] w (NamesPost (pathsL (tss xs)) w) := by
  have hnil : NmR w (.slice (some ⟨w.heap.size, 0, none⟩) 0 0) [] (w.alloc (.cells #[] 9)) := ⟨⟨by simp, .inr ⟨w.heap.size, 0, #[], rfl, Nat.le_refl _, heap_alloc_new w _, Nat.le_refl _, by unfold maxLen; omega, rfl, by simp⟩⟩, (Below.refl _ _).alloc (Nat.le_refl _) _⟩
  have htl : (tss xs).length = xs.length := by simp [tss]
  go_enter Try.func34, Try.ntmps34
  go_wp2
  go_loopw [3, 4] (fun v i wr => ∃ k : Nat, i = .int .i64 k ∧ k ≤ xs.length ∧ NmR w v (pathsL ((tss xs).take k)) wr ∧ (pathsL ((tss xs).take k)).length ≤ 1000 * k) (fun _ i _ => xs.length - (intOf i).toNat)
  case atStart => exact ⟨0, rfl, Nat.zero_le _, hnil, Nat.zero_le _⟩
  case round =>
    obtain ⟨k, rfl, hk, hR, hle⟩ := hrel
    by_cases hlt : k < xs.length
    · have hlt' : (k : Int) < xs.length := by omega
      have HP : Keep (pathsL ((tss xs).take (k + 1)) = addP (pathsL ((tss xs).take k)) xs[k].2.2) := ⟨by rw [pathsL_take (by omega)]; congr 1; simp [tss]⟩
      have HT := fun W (hW : Below w.heap.size w W) => (h.below hW) k hlt
      have hnk := hn _ (List.getElem_mem hlt)
      generalize xs[k] = x at *
      obtain ⟨ad, cp, ts⟩ := x
      dsimp only at HP HT hnk
      generalize pathsL ((tss xs).take k) = acc at *
      have HHT : Keep (∀ W, Below w.heap.size w W → W.cell? ⟨b, off + k, none⟩ = some (.slice ad ts.length cp) ∧ ES W ad ts) := ⟨HT⟩
      have HX : Keep (TsAt w b off xs ∧ ∀ x ∈ xs, x.2.2.length ≤ 1000) := ⟨⟨h, hn⟩⟩
      clear HT hnil
      go_wp2
      go_loopw [3, 5] (fun v j wq => ∃ m : Nat, j = .int .i64 m ∧ m ≤ ts.length ∧ NmR w v (addP acc (ts.take m)) wq) (fun _ j _ => ts.length - (intOf j).toNat)
      case atStart => exact ⟨0, rfl, Nat.zero_le _, by simpa [addP] using hR⟩
      case round =>
        clear hR
        obtain ⟨m, rfl, hm, hR⟩ := hrel
        obtain ⟨hc, hE⟩ := HHT.out _ hR.bw
        have hal := addP_len acc ts m hm
        by_cases hml : m < ts.length
        · have hml' : (m : Int) < ts.length := by omega
          obtain ⟨b1, o1, rfl, hc1⟩ := hE.at hml
          obtain ⟨x0, _, _⟩ := hc1 m hml
          have HA : Keep (addP acc (ts.take (m + 1)) = nameL (addP acc (ts.take m)) ts[m].path) := ⟨addP_take hml⟩
          obtain ⟨ad2, cp2, rfl⟩ := owns_slice hR.row
          have hnm := l6Name_any ad2 cp2 (addP acc (ts.take m)) ts[m].path wr (ss_of_rowM hR.row) (by omega)
          generalize addP acc (ts.take m) = ls at *
          generalize ts[m].path = s at *
          clear hc1 hE
          go_wp2_with fail
          refine hnm.mono ?_
          rintro e w2 ⟨ad3, cp3, rfl, hrow, hb2⟩
          have hR2 : NmR w (.slice ad3 (nameL ls s).length cp3) (nameL ls s) w2 := ⟨by
            refine ⟨hrow.1, ?_⟩
            rcases hrow.2 with h' | ⟨g, cap', cur, hv, k1, k2⟩
            · exact .inl h'
            · exact .inr ⟨g, cap', cur, hv, Nat.le_trans hR.bw.size k1, k2⟩, hR.bw.trans (hb2.mono hR.bw.size)⟩
          clear hnm hrow hb2
          go_wp2
          go_roundw
          case rel => exact ⟨m + 1, by congr 1, by omega, by rw [HA.out]; exact hR2⟩
          case measure => simp only [intOf]; omega
        · obtain rfl : m = ts.length := by omega
          rw [List.take_length] at hR hal
          go_wp2
          go_roundw
          case rel => exact ⟨k + 1, by congr 1, by omega, by rw [HP.out]; exact hR, by rw [HP.out]; omega⟩
          case measure => simp only [intOf]; omega
    · obtain rfl : k = xs.length := by omega
      rw [List.take_of_length_le (by omega)] at hR
      obtain ⟨ad, cp, rfl⟩ := owns_slice hR.row
      go_wp2
      go_ret
      exact ⟨ad, cp, rfl, hR.row, hR.bw⟩
end Go.Proofs.Ytjlflmbifeocbaa

namespace Go.Proofs.Ytjlflmbifeocbaa
open Go.RowKit

def diffC (ts us : List En) (p : ByteArray) : Ch := ⟨p, atL ts p, atL us p⟩
def diffN (ts us : List En) (ns : List ByteArray) : List Ch := ns.flatMap fun p => if sameF (atL ts p) (atL us p) = true then [] else [diffC ts us p]
def diffL (ts us : List En) : List Ch := diffN ts us (pathsL [ts, us])
theorem diffN_take {ts us : List En} {ns : List ByteArray} {k : Nat} (hk : k < ns.length) : diffN ts us (ns.take (k + 1)) = diffN ts us (ns.take k) ++ (if sameF (atL ts ns[k]) (atL us ns[k]) = true then [] else [diffC ts us ns[k]]) := by
  unfold diffN
  rw [List.take_succ_eq_append_getElem hk, List.flatMap_append]
  simp
theorem diffN_len (ts us : List En) : ∀ ns : List ByteArray, (diffN ts us ns).length ≤ ns.length
  | [] => Nat.le_refl _
  | p :: ns => by
    have h := diffN_len ts us ns
    unfold diffN at h ⊢
    rw [List.flatMap_cons, List.length_append, List.length_cons]
    have h1 : (if sameF (atL ts p) (atL us p) = true then ([] : List Ch) else [diffC ts us p]).length ≤ 1 := by
      split
      · exact Nat.zero_le _
      · exact Nat.le_refl _
    omega
def DiffRel (ts us : List En) (cs : List Ch) : Prop := (ValidTs ts ∧ ValidTs us ∧ cs = diffL ts us) ∨ (¬ (ValidTs ts ∧ ValidTs us) ∧ cs = [])
def DiffPost (ts us : List En) (w : World) (e : Ending) (w' : World) : Prop :=
  ∃ cs, DiffRel ts us cs ∧ (∃ ad cap, e = .returned (.agg #[.slice ad cs.length cap]) ∧ CL w.heap.size w' ad cs) ∧ Below w.heap.size w w'

/-- A file in a box. -/
structure FBx (b : Nat) (f : Fl) (W : World) : Prop where
  c0 : W.cell? ⟨b, 0, none⟩ = some (.bool f.there)
  c1 : W.cell? ⟨b, 1, none⟩ = some (.string f.text)
  c2 : W.cell? ⟨b, 2, none⟩ = some (.bool f.runs)
  fz : ∀ j, W.frozen? ⟨b, j, none⟩ = false
theorem FBx.lt {b : Nat} {f : Fl} {W : World} (h : FBx b f W) : b < W.heap.size := World.block_lt_of_cell? W ⟨b, 0, none⟩ h.c0
theorem FBx.later {b : Nat} {f : Fl} {W W' : World} (h : FBx b f W) (hb : Below W.heap.size W W') : FBx b f W' :=
  ⟨cell_later hb h.c0, cell_later hb h.c1, cell_later hb h.c2, fun j => (hb.frozen (p := ⟨b, j, none⟩) h.lt).trans (h.fz j)⟩
def CutF (f : Fl) (W1 : World) (pv : Value) (W : World) : Prop := ∃ fb, pv = .pointer (some ⟨fb, 0, none⟩) ∧ FBx fb f W ∧ W1.heap.size ≤ fb ∧ Below W1.heap.size W1 W
theorem newF {Y X : World} {t : TypeId} (h : Below (Y.alloc (.cells #[.bool false, .string ⟨#[]⟩, .bool false] t)).drew.heap.size (Y.alloc (.cells #[.bool false, .string ⟨#[]⟩, .bool false] t)).drew X) : FBx Y.heap.size noFl X :=
  FBx.later (W := (Y.alloc (.cells #[.bool false, .string ⟨#[]⟩, .bool false] t)).drew) ⟨by simp [noFl], by simp [noFl], by simp [noFl], fun j => by simp⟩ h
theorem cutF_mk {W1 W : World} {f : Fl} (hb : Below W1.heap.size W1 W) : CutF f W1 (.pointer (some ⟨W.heap.size, 0, none⟩)) (W.alloc (.cells #[.bool f.there, .string f.text, .bool f.runs] 54)) :=
  ⟨_, rfl, ⟨by simp, by simp, by simp, fun j => by simp⟩, hb.size, hb.alloc hb.size _⟩
theorem cutF_mk' {W1 W : World} {f : Fl} {fb : Nat} (hb : Below W1.heap.size W1 W) (hn : FBx fb noFl W) (hl : W1.heap.size ≤ fb) : CutF f W1 (.pointer (some ⟨fb, 0, none⟩)) (((W.setCell ⟨fb, 0, none⟩ (.bool f.there)).setCell ⟨fb, 1, none⟩ (.string f.text)).setCell ⟨fb, 2, none⟩ (.bool f.runs)) := by
  have h0 : (W.setCell ⟨fb, 0, none⟩ (.bool f.there)).cell? ⟨fb, 0, none⟩ = some (.bool f.there) := World.cell?_setCell_same _ _ _ hn.c0
  have h1 : ((W.setCell ⟨fb, 0, none⟩ (.bool f.there)).setCell ⟨fb, 1, none⟩ (.string f.text)).cell? ⟨fb, 1, none⟩ = some (.string f.text) := World.cell?_setCell_same _ _ _ ((World.cell?_setCell_other _ _ _ _ (by simp)).trans hn.c1)
  have h2 : ((W.setCell ⟨fb, 0, none⟩ (.bool f.there)).setCell ⟨fb, 1, none⟩ (.string f.text)).cell? ⟨fb, 2, none⟩ = some (.bool noFl.runs) := (World.cell?_setCell_other _ _ _ _ (by simp)).trans ((World.cell?_setCell_other _ _ _ _ (by simp)).trans hn.c2)
  refine ⟨fb, rfl, ⟨?_, (World.cell?_setCell_other _ _ _ _ (by simp)).trans h1, World.cell?_setCell_same _ _ _ h2, fun j => (World.frozen?_setCell _ _ _ _).trans ((World.frozen?_setCell _ _ _ _).trans ((World.frozen?_setCell _ _ _ _).trans (hn.fz j)))⟩, hl, ((hb.setCell (p := ⟨fb, 0, none⟩) hl _).setCell (p := ⟨fb, 1, none⟩) hl _).setCell (p := ⟨fb, 2, none⟩) hl _⟩
  exact (World.cell?_setCell_other _ _ _ _ (by simp)).trans ((World.cell?_setCell_other _ _ _ _ (by simp)).trans h0)

set_option maxRecDepth 100000 in
set_option maxHeartbeats 16000000 in
theorem specDiff_any (a b : Option Addr) (ca cb : Nat) (ts us : List En) (w : World) (hts : ES w a ts) (hus : ES w b us) (hn : ts.length ≤ 1048576) (hnb : us.length ≤ 1048576) :
    Calls Try.prog 8 #[.agg #[.slice a ts.length ca], .agg #[.slice b us.length cb]] w fun e w' => DiffPost ts us w e w' := by
  obtain ⟨i0, hi, hz0, hz1, hzb⟩ := info_parts Try.infoChange
  have hal : Below w.heap.size w ((((w.alloc (.cells #[.slice a ts.length ca] 25)).alloc (.cells #[.slice b us.length cb] 25)).alloc (.cells #[.slice none 0 0] 30)).alloc (.cells #[.slice none 0 0] 30)) := ((((Below.refl _ _).alloc (Nat.le_refl _) _).alloc (by simp) _).alloc (by simp; omega) _).alloc (by simp; omega) _
  have m0 : ((((w.alloc (.cells #[.slice a ts.length ca] 25)).alloc (.cells #[.slice b us.length cb] 25)).alloc (.cells #[.slice none 0 0] 30)).alloc (.cells #[.slice none 0 0] 30)).cell? ⟨w.heap.size, 0, none⟩ = some (.slice a ts.length ca) := by simp [go_sem]
  have m1 : ((((w.alloc (.cells #[.slice a ts.length ca] 25)).alloc (.cells #[.slice b us.length cb] 25)).alloc (.cells #[.slice none 0 0] 30)).alloc (.cells #[.slice none 0 0] 30)).cell? ⟨w.heap.size + 1, 0, none⟩ = some (.slice b us.length cb) := by simp [go_sem]
  have k0 : ((((w.alloc (.cells #[.slice a ts.length ca] 25)).alloc (.cells #[.slice b us.length cb] 25)).alloc (.cells #[.slice none 0 0] 30)).alloc (.cells #[.slice none 0 0] 30)).cell? ⟨w.heap.size + 1 + 1, 0, none⟩ = some (.slice none 0 0) := by simp [go_sem]
  have kf : ((((w.alloc (.cells #[.slice a ts.length ca] 25)).alloc (.cells #[.slice b us.length cb] 25)).alloc (.cells #[.slice none 0 0] 30)).alloc (.cells #[.slice none 0 0] 30)).frozen? ⟨w.heap.size + 1 + 1, 0, none⟩ = false := by simp [go_sem]
  have o0 : ((((w.alloc (.cells #[.slice a ts.length ca] 25)).alloc (.cells #[.slice b us.length cb] 25)).alloc (.cells #[.slice none 0 0] 30)).alloc (.cells #[.slice none 0 0] 30)).cell? ⟨w.heap.size + 1 + 1 + 1, 0, none⟩ = some (.slice none 0 0) := by simp [go_sem]
  have of0 : ((((w.alloc (.cells #[.slice a ts.length ca] 25)).alloc (.cells #[.slice b us.length cb] 25)).alloc (.cells #[.slice none 0 0] 30)).alloc (.cells #[.slice none 0 0] 30)).frozen? ⟨w.heap.size + 1 + 1 + 1, 0, none⟩ = false := by simp [go_sem]
  have os0 : w.heap.size + 1 + 1 + 1 < ((((w.alloc (.cells #[.slice a ts.length ca] 25)).alloc (.cells #[.slice b us.length cb] 25)).alloc (.cells #[.slice none 0 0] 30)).alloc (.cells #[.slice none 0 0] 30)).heap.size := by simp [go_sem]
  go_enter Try.func8, Try.ntmps8
  go_upto_region 2 with fail
  generalize (((w.alloc (.cells #[.slice a ts.length ca] 25)).alloc (.cells #[.slice b us.length cb] 25)).alloc (.cells #[.slice none 0 0] 30)).alloc (.cells #[.slice none 0 0] 30) = W at *
  obtain ⟨ob, hob⟩ : ∃ ob, ob = w.heap.size + 1 + 1 + 1 := ⟨_, rfl⟩
  obtain ⟨g, hg⟩ : ∃ g, g = w.heap.size + 1 + 1 := ⟨_, rfl⟩
  obtain ⟨tb, htb⟩ : ∃ tb, tb = w.heap.size + 1 := ⟨_, rfl⟩
  obtain ⟨ta, hta⟩ : ∃ ta, ta = w.heap.size := ⟨_, rfl⟩
  rw [← hob] at o0 of0 os0 ⊢
  rw [← hg] at k0 kf ⊢
  rw [← htb] at m1 ⊢
  rw [← hta] at m0 ⊢
  have HS : Keep (ta = w.heap.size ∧ tb = w.heap.size + 1 ∧ g = w.heap.size + 2 ∧ ob = w.heap.size + 3) := ⟨by omega⟩
  clear hob hg htb hta
  -- whether both are valid
  go_cut [18] (fun v wx => ∃ nb : Bool, v = .bool nb ∧ Keep (nb = false ↔ ValidTs ts ∧ ValidTs us) ∧ Below W.heap.size W wx)
  case first =>
    go_wp2_with fail
    refine (specTree_any a ca ts W (hts.below hal) hn).mono ?_
    rintro e w1 ⟨va, rfl, hva, hb1⟩
    have m1' := cell_later hb1 m1
    cases va with
    | false =>
      have HV : Keep ((true = false) ↔ ValidTs ts ∧ ValidTs us) := ⟨⟨fun h => (by cases h), fun h => (by have := hva.2 h.1; cases this)⟩⟩
      clear hva
      go_wp2_with fail
      go_meet
      case rel => exact ⟨true, rfl, HV, hb1⟩
    | true =>
      have HV : Keep (ValidTs ts) := ⟨hva.1 rfl⟩
      clear hva
      go_wp2_with fail
      refine (specTree_any b cb us w1 ((hus.below hal).below hb1) hnb).mono ?_
      rintro e w2 ⟨vb, rfl, hvb, hb2⟩
      have HV2 : Keep ((!vb) = false ↔ ValidTs ts ∧ ValidTs us) := ⟨⟨fun h => ⟨HV.out, hvb.1 (by simpa using h)⟩, fun h => by rw [hvb.2 h.2]; rfl⟩⟩
      clear hvb
      go_wp2_with fail
      go_meet
      case rel => exact ⟨_, rfl, HV2, hb1.trans (hb2.mono hb1.size)⟩
  case rest =>
    obtain ⟨nb, rfl, HV, hb1⟩ := hcut
    replace m0 := cell_later hb1 m0
    replace m1 := cell_later hb1 m1
    replace k0 := cell_later hb1 k0
    replace o0 := cell_later hb1 o0
    have hWs : g < W.heap.size := by have := HS.out; omega
    replace kf : wc.frozen? ⟨g, 0, none⟩ = false := (hb1.frozen (p := ⟨g, 0, none⟩) hWs).trans kf
    replace of0 : wc.frozen? ⟨ob, 0, none⟩ = false := (hb1.frozen (p := ⟨ob, 0, none⟩) os0).trans of0
    have os1 : ob < wc.heap.size := Nat.lt_of_lt_of_le os0 hb1.size
    have hbw := hal.trans (hb1.mono hal.size)
    have hE1 := hts.below hbw
    have hE2 := hus.below hbw
    clear hb1 hal os0 hWs
    cases nb with
    | true =>
      have hnv : ¬ (ValidTs ts ∧ ValidTs us) := fun h => by have := HV.out.2 h; cases this
      go_wp2
      refine bodyPost_ret (v := .agg #[.slice none ([] : List Ch).length 0]) ?_ rfl ⟨[], .inr ⟨hnv, rfl⟩, ⟨none, 0, rfl, CL.nil _ _ _⟩, hbw.setCell (p := ⟨g, 0, none⟩) (by have := HS.out; show _ ≤ g; omega) _⟩
      go_light
      simp [results, Try.results8, go_sem, k0]
    | false =>
      have hv := HV.out.1 rfl
      have ht100 : ts.length ≤ 100 := hv.1.1
      have hu100 : us.length ≤ 100 := hv.2.1
      have hba := (Below.refl wc.heap.size wc).alloc (Nat.le_refl _) (.cells #[.slice a ts.length ca, .slice b us.length cb] 25)
      have hTs : TsAt (wc.alloc (.cells #[.slice a ts.length ca, .slice b us.length cb] 25)) wc.heap.size 0 [(a, ca, ts), (b, cb, us)] := fun i hi => by
        match i, hi with
        | 0, _ => exact ⟨by simp, hE1.below hba⟩
        | 1, _ => exact ⟨by simp, hE2.below hba⟩
      have hpl := l6Paths_any wc.heap.size 0 2 [(a, ca, ts), (b, cb, us)] _ hTs (by simp) (fun x hx => by
        rcases List.mem_cons.1 hx with rfl | hx
        · show ts.length ≤ _; omega
        · rw [List.mem_singleton.1 hx]; show us.length ≤ _; omega)
      have hlen : (pathsL [ts, us]).length ≤ 200 := by
        have h1 := addP_len [] ts ts.length (Nat.le_refl _)
        have h2 := addP_len (addP [] ts) us us.length (Nat.le_refl _)
        rw [List.take_length] at h1 h2
        show (addP (addP [] ts) us).length ≤ 200
        simp at h1
        omega
      obtain ⟨ns, hns⟩ : ∃ ns, ns = pathsL [ts, us] := ⟨_, rfl⟩
      have HNS : Keep (ns = pathsL [ts, us]) := ⟨hns⟩
      rw [← hns] at hlen
      have hpl2 : Calls Try.prog 34 #[.slice (some ⟨wc.heap.size, 0, none⟩) 2 2] (wc.alloc (.cells #[.slice a ts.length ca, .slice b us.length cb] 25)) (NamesPost ns (wc.alloc (.cells #[.slice a ts.length ca, .slice b us.length cb] 25))) := by rw [hns]; exact hpl
      clear hns hpl hTs
      go_wp2_with fail
      refine hpl2.mono ?_
      rintro e W0 ⟨an, cn, rfl, hrow, hb2⟩
      have hb3 := hba.trans (hb2.mono hba.size)
      have hbw2 := hbw.trans (hb3.mono hbw.size)
      obtain ⟨ng, HNG⟩ : ∃ ng, Keep (∀ k (h : k < ns.length), an = some ⟨ng, 0, none⟩ ∧ W0.cell? ⟨ng, k, none⟩ = some (.string ns[k])) := by
        by_cases h0 : ns = []
        · exact ⟨0, ⟨fun k hk => by rw [h0] at hk; simp at hk⟩⟩
        · obtain ⟨ng, c, hv2, _⟩ := hrow.form (List.length_pos_iff.2 h0)
          cases hv2
          exact ⟨ng, ⟨fun k hk => ⟨rfl, by rw [hrow.cellAt k (by simpa using hk), List.getElem?_map, List.getElem?_eq_getElem hk]; rfl⟩⟩⟩
      replace m0 := cell_later hb3 m0
      replace m1 := cell_later hb3 m1
      replace k0 := cell_later hb3 k0
      replace kf : W0.frozen? ⟨g, 0, none⟩ = false := (hb3.frozen (p := ⟨g, 0, none⟩) (by have := HS.out; show g < _; omega)).trans kf
      have hst0 := OutCh.start (cell_later hb3 o0) ((hb3.frozen (p := ⟨ob, 0, none⟩) os1).trans of0) (Nat.lt_of_lt_of_le os1 hb3.size)
      have HZ : Keep (ob < W0.heap.size ∧ ∀ k (h : k < ns.length), ng < W0.heap.size ∧ ng ≠ ob) := ⟨⟨Nat.lt_of_lt_of_le os1 hb3.size, fun k hk => by
        have h1 := World.block_lt_of_cell? W0 ⟨ng, k, none⟩ (HNG.out k hk).2
        refine ⟨h1, ?_⟩
        obtain ⟨g9, c9, hv9, hlo9, _⟩ := hrow.form (by omega)
        obtain ⟨rfl, _⟩ := HNG.out k hk
        cases hv9
        have h2 : wc.heap.size + 1 ≤ ng := by simpa using hlo9
        omega⟩⟩
      clear o0 of0 os1 hb2 hb3 hba hE1 hE2 hrow hbw hpl2
      go_wp2
      go_loopw [7] (fun i wr => ∃ (k : Nat) (v : Value), i = .int .i64 k ∧ k ≤ ns.length ∧ OutCh ob W0 v (diffN ts us (ns.take k)) wr) (fun i _ => ns.length - (intOf i).toNat)
      case atStart => exact ⟨0, _, rfl, Nat.zero_le _, hst0⟩
      case round =>
        clear hst0
        obtain ⟨k, v, rfl, hk, hst⟩ := hrel
        have hbr := hst.below hbw2 (by have := HS.out; omega)
        by_cases hlt : k < ns.length
        · have hlt' : (k : Int) < ns.length := by omega
          have hz := HZ.out.2 k hlt
          obtain ⟨rfl, hnk⟩ := HNG.out k hlt
          have HTk : Keep (diffN ts us (ns.take (k + 1)) = diffN ts us (ns.take k) ++ (if sameF (atL ts ns[k]) (atL us ns[k]) = true then [] else [diffC ts us ns[k]])) := ⟨diffN_take hlt⟩
          have hdl : (diffN ts us (ns.take k)).length ≤ 200 := by have := diffN_len ts us (ns.take k); simp at this; omega
          have t1 := hst.keep m0 (by have := HS.out; have := HZ.out.1; omega) (by have := HS.out; omega)
          have t2 := hst.keep m1 (by have := HS.out; have := HZ.out.1; omega) (by have := HS.out; omega)
          have nk := hst.keep hnk hz.1 hz.2
          generalize diffN ts us (ns.take k) = cs at *
          obtain ⟨s, hs⟩ : ∃ s, s = ns[k] := ⟨_, rfl⟩
          rw [← hs] at nk HTk
          unfold diffC at HTk
          obtain ⟨f1, hf1⟩ : ∃ f1, f1 = atL ts s := ⟨_, rfl⟩
          obtain ⟨f2, hf2⟩ : ∃ f2, f2 = atL us s := ⟨_, rfl⟩
          have HA1 : Keep (∀ X, Below wr.heap.size wr X → Calls Try.prog 35 #[.agg #[.slice a ts.length ca], .string s] X fun e w' => e = .returned (.agg #[.bool f1.there, .string f1.text, .bool f1.runs]) ∧ Below X.heap.size X w') := ⟨fun X hX => by rw [hf1]; exact l6At_any a ca ts s X ((hts.below hbr).below hX) (by omega)⟩
          have HA2 : Keep (∀ X, Below wr.heap.size wr X → Calls Try.prog 35 #[.agg #[.slice b us.length cb], .string s] X fun e w' => e = .returned (.agg #[.bool f2.there, .string f2.text, .bool f2.runs]) ∧ Below X.heap.size X w') := ⟨fun X hX => by rw [hf2]; exact l6At_any b cb us s X ((hus.below hbr).below hX) (by omega)⟩
          rw [← hf1, ← hf2] at HTk
          clear hs hf1 hf2 hnk hz
          have kq : ∀ {W W' : World}, Below wr.heap.size wr W → Below W.heap.size W W' → Below wr.heap.size wr W' := fun h h' => h.trans (h'.mono h.size)
          have q0 : Below wr.heap.size wr wr.drew := (Below.refl _ _).drew
          have qa := ((Below.refl wr.heap.size wr).alloc (Nat.le_refl _) (.cells #[.bool false, .string ⟨#[]⟩, .bool false] 54)).drew
          go_upto_region 8 with fail
          go_cut [8] from 24 to 56 (fun pv wx => CutF f1 wr pv wx)
          case first =>
            have t1a : ∀ o, (wr.alloc o).cell? ⟨ta, 0, none⟩ = some (.slice a ts.length ca) := fun o => cell_later ((Below.refl _ _).alloc (Nat.le_refl _) o) t1
            have nka : ∀ o, (wr.alloc o).cell? ⟨ng, k, none⟩ = some (.string s) := fun o => cell_later ((Below.refl _ _).alloc (Nat.le_refl _) o) nk
            go_region_with (go_at_call 35; refine (HA1.out _ ?_).mono ?_; (first | with_reducible exact q0 | with_reducible exact qa); rintro e wG ⟨rfl, hbG⟩; (try (with_reducible have N := newF hbG; have n0 := N.c0; have n1 := N.c1; have n2 := N.c2; have nf := N.fz)))
            all_goals
              go_wp2_with fail
              go_meet
              case rel =>
                first
                  | exact cutF_mk (kq q0 hbG)
                  | exact cutF_mk' (kq qa hbG) N (Nat.le_refl _)
          case rest =>
            obtain ⟨fb, rfl, hF, hfb, hB1⟩ := hcut
            clear q0 qa
            generalize hwd : wc = wd at *
            clear hwd
            have t2w := cell_later hB1 t2
            have nkw := cell_later hB1 nk
            have q0 : Below wr.heap.size wr wd.drew := hB1.drew
            have qa := (hB1.alloc hB1.size (.cells #[.bool false, .string ⟨#[]⟩, .bool false] 54)).drew
            have q1 : Below wd.heap.size wd wd.drew := (Below.refl _ _).drew
            have q2 := ((Below.refl wd.heap.size wd).alloc (Nat.le_refl _) (.cells #[.bool false, .string ⟨#[]⟩, .bool false] 54)).drew
            go_upto_region 9 with fail
            go_cut [9] from 24 to 56 (fun pv wx => CutF f2 wd pv wx)
            case first =>
              have t2a : ∀ o, (wd.alloc o).cell? ⟨tb, 0, none⟩ = some (.slice b us.length cb) := fun o => cell_later ((Below.refl _ _).alloc (Nat.le_refl _) o) t2w
              have nka : ∀ o, (wd.alloc o).cell? ⟨ng, k, none⟩ = some (.string s) := fun o => cell_later ((Below.refl _ _).alloc (Nat.le_refl _) o) nkw
              go_region_with (go_at_call 35; refine (HA2.out _ ?_).mono ?_; (first | with_reducible exact q0 | with_reducible exact qa); rintro e wG ⟨rfl, hbG⟩; (try (with_reducible have N := newF hbG; have n0 := N.c0; have n1 := N.c1; have n2 := N.c2; have nf := N.fz)))
              all_goals
                go_wp2_with fail
                go_meet
                case rel =>
                  first
                    | exact cutF_mk (q1.trans (hbG.mono q1.size))
                    | exact cutF_mk' (q2.trans (hbG.mono q2.size)) N (Nat.le_refl _)
            case rest =>
              obtain ⟨gb, rfl, hG, hgb, hB2⟩ := hcut
              have hF2 := hF.later hB2
              have hB3 : Below wr.heap.size wr wc := kq hB1 hB2
              have hst2 := hst.later hB3
              have nk2 := cell_later hB3 nk
              clear t1 t2 t2w nk nkw q0 qa q1 q2 hF hB1 hB2 HA1 HA2 kq hbr hst
              obtain ⟨x1, x2, x3⟩ := f1
              obtain ⟨y1, y2, y3⟩ := f2
              obtain ⟨p0, p1, p2, _⟩ := hF2
              obtain ⟨g0, g1, g2, _⟩ := hG
              dsimp only at p0 p1 p2 g0 g1 g2
              cases hsm : sameF ⟨x1, x2, x3⟩ ⟨y1, y2, y3⟩ with
              | true =>
                have HT2 : Keep (diffN ts us (ns.take (k + 1)) = cs) := ⟨by rw [HTk.out, if_pos hsm, List.append_nil]⟩
                obtain ⟨⟨rfl, h2⟩, rfl⟩ : (x1 = y1 ∧ x2.toList = y2.toList) ∧ x3 = y3 := by simpa [sameF] using hsm
                obtain rfl : x2 = y2 := WideShapes.bytes_inj (by rw [← Lib.toList_data, ← Lib.toList_data]; exact h2)
                clear hsm h2 HTk
                go_wp2
                go_roundw
                case rel => exact ⟨k + 1, v, by congr 1, hlt, by rw [HT2.out]; exact hst2⟩
                case measure => simp only [intOf]; omega
              | false =>
                have HT2 : Keep (diffN ts us (ns.take (k + 1)) = cs ++ [⟨s, ⟨x1, x2, x3⟩, ⟨y1, y2, y3⟩⟩]) := ⟨by rw [HTk.out, if_neg (by rw [hsm]; simp)]⟩
                clear HTk
                go_upto_region 10 with fail
                go_cut [44] from 24 to 56 (fun x wx => x = .bool true ∧ wc = wx)
                case first =>
                  by_cases h1 : x1 = y1
                  · by_cases h2 : x2.toList = y2.toList
                    · by_cases h3 : x3 = y3
                      · exfalso
                        rw [Bool.eq_false_iff] at hsm
                        exact hsm (by simp [sameF, h1, h2, h3])
                      · go_wp2_with fail
                        go_meet
                        case rel => exact ⟨rfl, rfl⟩
                    · go_wp2_with fail
                      go_meet
                      case rel => exact ⟨rfl, rfl⟩
                  · go_wp2_with fail
                    go_meet
                    case rel => exact ⟨rfl, rfl⟩
                case rest =>
                  obtain ⟨rfl, rfl⟩ := hcut
                  clear hsm
                  obtain ⟨ad9, cp9, rfl⟩ := owns_slice hst2.row
                  have hb1 : Below wc.heap.size wc (wc.alloc (.cells #[.string s, .bool x1, .string x2, .bool x3, .bool y1, .string y2, .bool y3] 68)).drew := ((Below.refl _ _).alloc (Nat.le_refl _) _).drew
                  have o1 := hst2.cell
                  have o1a : ∀ o, (wc.alloc o).cell? ⟨ob, 0, none⟩ = some (.slice ad9 cs.length cp9) := fun o => cell_later ((Below.refl _ _).alloc (Nat.le_refl _) o) o1
                  have HST : Keep (OutCh ob W0 (.slice ad9 cs.length cp9) cs wc) := ⟨hst2⟩
                  have hgs := hst2.grown.size
                  clear hst2
                  go_upto_region 11 with fail
                  go_region_law (refine step_append_lies _ rfl _ _ 28 rfl W0.heap.size 68 i0 _ 7 80 Try.underlying28 hi hz0 hz1 hzb rfl (by decide) (.slice ad9 cs.length cp9) cs.length (ccells cs) rfl (by exact owns_below HST.out.row hb1) ⟨wc.heap.size, 0, none⟩ 1 1 (chL ⟨s, ⟨x1, x2, x3⟩, ⟨y1, y2, y3⟩⟩) rfl rfl (by exact news_7 wc ⟨s, ⟨x1, x2, x3⟩, ⟨y1, y2, y3⟩⟩ _ _ rfl) (by exact one_7 _) (by omega) (by unfold maxLen; omega) (by omega) (by simp; omega) (wc.heap.size + 1) (by simp) ?_; intro g3 cap3 w7 hown3 hgrow3 hat3 hlt3; have hm3 := HST.out.mid hb1 hgrow3; have oc3 := hm3.1; have of3 := hm3.2)
                  all_goals
                    have hst3 := HST.out.append hb1 hgrow3 hown3
                    clear hm3 oc3 of3 hgrow3 hown3 hat3 hlt3 o1 o1a p0 p1 p2 g0 g1 g2 nk2 HST
                    go_wp2
                    go_roundw
                    case rel => exact ⟨k + 1, _, by congr 1, hlt, by rw [HT2.out]; exact hst3⟩
                    case measure => simp only [intOf]; omega
        · obtain rfl : k = ns.length := by omega
          rw [List.take_length] at hst
          have r2 := hst.keep k0 (by have := HS.out; have := HZ.out.1; omega) (by have := HS.out; omega)
          have rf2 : wr.frozen? ⟨g, 0, none⟩ = false := frozen_of (hst.grown.block g (by have := HS.out; have := HZ.out.1; omega) (fun e => by have := HS.out; cases e; omega)) kf
          obtain ⟨ad, cap2, rfl⟩ := owns_slice hst.row
          have o2 := hst.cell
          have hcl := cl_of_row hst.row
          have hcl2 : CL w.heap.size (wr.setCell ⟨g, 0, none⟩ (.slice ad (diffN ts us ns).length cap2)) ad (diffN ts us ns) := (hcl.grown (row := some g) (grown_set0 wr g 0 (.slice ad (diffN ts us ns).length cap2)) (fun j _ hj _ e => by have := HS.out; have := HZ.out.1; cases e; omega)).mono (show w.heap.size ≤ W0.heap.size by have := HS.out; have := HZ.out.1; omega)
          have HB : Keep (Below w.heap.size w (wr.setCell ⟨g, 0, none⟩ (.slice ad (diffN ts us ns).length cap2))) := ⟨hbr.setCell (p := ⟨g, 0, none⟩) (by have := HS.out; show _ ≤ g; omega) _⟩
          have HCL : Keep (CL w.heap.size (wr.setCell ⟨g, 0, none⟩ (.slice ad (diffN ts us ns).length cap2)) ad (diffN ts us ns)) := ⟨hcl2⟩
          have HR : Keep (DiffRel ts us (diffN ts us ns)) := ⟨.inl ⟨hv.1, hv.2, by rw [HNS.out]; rfl⟩⟩
          clear hcl hcl2 hst hbr
          generalize diffN ts us ns = cs at *
          go_wp2
          refine bodyPost_ret (v := .agg #[.slice ad cs.length cap2]) ?_ rfl ⟨cs, HR.out, ⟨ad, cap2, rfl, HCL.out⟩, HB.out⟩
          go_light
          simp [results, Try.results8, go_sem, r2]
end Go.Proofs.Ytjlflmbifeocbaa

namespace Go.Proofs.Ytjlflmbifeocbaa
open Go.RowKit

/-- What one round of the loop puts behind. -/
def orP (x y : En) : ByteArray := if (x.path.toList == ([] : List UInt8)) = true then y.path else x.path
def outC (x y : En) : List Ch := if sameF (fileE x) (fileE y) = true then [] else [⟨orP x y, fileE x, fileE y⟩]
def outsE (pre : List PE) : List Ch := pre.flatMap fun x => outC (x.2.1.getD zeroE) (x.2.2.getD zeroE)
theorem outsE_snoc (pre : List PE) (x : PE) : outsE (pre ++ [x]) = outsE pre ++ outC (x.2.1.getD zeroE) (x.2.2.getD zeroE) := by simp [outsE]

theorem orP_at {ts us : List En} (h : ValidTs ts) {p : ByteArray} (hp : (∃ x ∈ ts, En.path x = p) ∨ ∃ y ∈ us, En.path y = p) : orP ((fnd En.path ts p).getD zeroE) ((fnd En.path us p).getD zeroE) = p := by
  unfold orP
  cases hf : fnd En.path ts p with
  | some e =>
    obtain ⟨h1, h2⟩ := fnd_some hf
    show (if (e.path.toList == ([] : List UInt8)) = true then _ else e.path) = p
    rw [valid_path h h1]
    exact h2
  | none =>
    have hz : (zeroE.path.toList == ([] : List UInt8)) = true := by simp [zeroE]
    show (if (zeroE.path.toList == ([] : List UInt8)) = true then ((fnd En.path us p).getD zeroE).path else _) = p
    rw [if_pos hz]
    cases hg : fnd En.path us p with
    | some e => exact (fnd_some hg).2
    | none =>
      exfalso
      rcases hp with ⟨x, hx, hxp⟩ | ⟨x, hx, hxp⟩
      · unfold fnd at hf
        rw [List.find?_eq_none] at hf
        exact hf x hx (eqb_iff.2 hxp)
      · unfold fnd at hg
        rw [List.find?_eq_none] at hg
        exact hg x hx (eqb_iff.2 hxp)

theorem outs_diff {ts us : List En} (ht : ValidTs ts) (hu : ValidTs us) : outsE (mrgE ts us) = diffL ts us := by
  have h1 := addP_asc (l := []) List.Pairwise.nil ts
  have h2 := addP_asc h1.1 us
  have hmem : ∀ p, p ∈ pathsL [ts, us] ↔ (∃ x ∈ ts, En.path x = p) ∨ ∃ y ∈ us, En.path y = p := fun p => by
    show p ∈ addP (addP [] ts) us ↔ _
    rw [h2.2, h1.2]
    simp
  have hM := mrg_eq En.path En.path (ts.length + us.length) ts us (pathsL [ts, us]) (Nat.le_refl _) (valid_asc ht) (valid_asc hu) h2.1 hmem
  unfold mrgE
  rw [hM]
  unfold outsE diffL diffN
  rw [List.flatMap_map, List.flatMap_def, List.flatMap_def]
  congr 1
  refine List.map_congr_left fun p hp => ?_
  show outC ((fnd En.path ts p).getD zeroE) ((fnd En.path us p).getD zeroE) = _
  unfold outC diffC
  rw [fileE_at ht, fileE_at hu, orP_at ht ((hmem p).1 hp)]
end Go.Proofs.Ytjlflmbifeocbaa

namespace Go.Proofs.Ytjlflmbifeocbaa
open Go.RowKit Go.Shelf

/-- The function gf with the captured values lb goes through the list all. -/
def Iter {α : Type} (gf : Nat) (lb : Array Value) (enc : α → Array Value) (all : List α) (M : World → Prop) : Prop :=
  ∀ (n l : Nat) (J Jx : List α → World → Prop) (W : World), (∀ pre W1, J pre W1 → M W1) → (∀ pre W1 W2, J pre W1 → Below W1.heap.size W1 W2 → J pre W2) →
    (∀ pre x W1, J pre W1 → (∃ r, all = (pre ++ [x]) ++ r) → YieldAt Fence.wide (n - 1) Try.prog l (enc x) W1 fun e W' =>
      (e = .returned (.bool true) ∧ J (pre ++ [x]) W') ∨ (e = .returned (.bool false) ∧ Jx (pre ++ [x]) W')) → J [] W →
    CallsIn Fence.wide n Try.prog gf (#[.func (.yield l) #[] #[]] ++ lb) W fun e W' => (∃ v, e = .returned v) ∧ (J all W' ∨ (∃ pre, pre <+: all ∧ Jx pre W'))

/-- The loop's own two blocks. -/
def TwoB (B : Nat) (W W' : World) : Prop := W'.heap[B]? = W.heap[B]? ∧ W'.heap[B + 1]? = W.heap[B + 1]?

/-- How the body of a round may be left. -/
def iterPost {α : Type} (B : Nat) (I : List α → World → Prop) (Ix : List α → World → Prop) (xs : List α) (W : World) : Exit → Act → World → Prop
  | .normal, _, W' => TwoB B W W' ∧ I xs W'
  | .ret, _, W' => TwoB B W W' ∧ Ix xs W'
  | .exit _, _, _ => False
  | .goto _, _, _ => False
  | .panic _, _, _ => False
  | .outgrown, _, _ => False

theorem range_iter {α : Type} {gf : Nat} {lb : Array Value} {enc : α → Array Value} {all : List α} {M : World → Prop} (hIt : Iter gf lb enc all M) (heg : ∀ args w, (callFunc gf args).run Try.prog w = .ok (.enter gf args) w)
    {g : Operand} {ps : Array Tmp} {assign body : Code} {Q : Exit → Act → World → Prop} {a : Act} {w : World} {n : Nat} (h1 : 1 ≤ n)
    (hg : a.eval g = .func (.func gf) #[] lb) (hps : ∀ x, (enc x).size = ps.size)
    (I Ix : List α → World → Prop) (hIM : ∀ pre W, I pre W → M W) (hIb : ∀ pre W W', I pre W → Below W.heap.size W W' → I pre W')
    (hIp : ∀ pre W l o, (l = w.heap.size ∨ l = w.heap.size + 1) → I pre W → I pre (W.putObj l o)) (hXp : ∀ pre W l o, (l = w.heap.size ∨ l = w.heap.size + 1) → Ix pre W → Ix pre (W.putObj l o))
    (h0 : ∀ o1 o2, I [] ((w.alloc o1).alloc o2)) (Bx : α → Nat → Act → World → Prop) (hBp : ∀ x B a' W l o, l < B → Bx x B a' W → Bx x B a' (W.putObj l o))
    (hassign : ∀ (l : Nat) (x : α) (W : World) (K : Act → World → Prop), (∀ a' W', Below W.heap.size W W' → Bx x W.heap.size a' W' → K a' W') →
      assign.wpIn (Fence.wide.inRound l) (n - 1 - 1) Try.prog (Exit.then K (fun _ _ _ => False)) { tmps := (ps.zip (enc x)).foldl (fun t (p, v) => t.setIfInBounds p v) a.tmps, defers := [] } W)
    (hbody : ∀ (l : Nat) (pre : List α) (x : α) (a' : Act) (B : Nat) (W : World), I pre W → (∃ r, all = pre ++ [x] ++ r) → w.heap.size + 1 < B → B ≤ W.heap.size → Bx x B a' W → body.wpIn (Fence.wide.inRound l) (n - 1 - 1) Try.prog (iterPost w.heap.size I Ix (pre ++ [x]) W) a' W)
    (hdone : ∀ (W : World), I all W → W.heap[w.heap.size]? = some (.deferred (some [])) → Q .normal { a with defers := { target := .collected w.heap.size, args := #[] } :: a.defers } W)
    (hstop : ∀ (pre : List α) (W : World), pre <+: all → Ix pre W → W.heap[w.heap.size]? = some (.deferred (some [])) → Code.ret.wpIn Fence.wide n Try.prog Q { a with defers := { target := .collected w.heap.size, args := #[] } :: a.defers } W) :
    (Code.rangeFunc g ps assign body).wpIn Fence.wide n Try.prog Q a w := by
  refine wpIn_rangeFunc ?_
  intro fn hfn
  rw [show Fence.wide.round = none from rfl]
  obtain ⟨rc, hrc⟩ : ∃ rc : LoopState → Option Code → Loop, rc = fun st pe => { state := st, pending := pe, fn, tmps := a.tmps, params := ps, assign, body, defers := w.heap.size } := ⟨_, rfl⟩
  obtain ⟨W1, hW1⟩ : ∃ W1, (w.alloc (.deferred (some []))).alloc (.loop (rc .ready none)) = W1 := ⟨_, rfl⟩
  have hL1 : W1.heap[w.heap.size + 1]? = some (.loop (rc .ready none)) := by
    rw [← hW1]
    have := World.alloc_heap_new (w.alloc (.deferred (some []))) (.loop (rc .ready none))
    rwa [World.size_alloc] at this
  have hK1 : W1.heap[w.heap.size]? = some (.deferred (some [])) := by
    rw [← hW1]; exact (Below.heap_alloc _ _ _ (by simp)).trans (World.alloc_heap_new w _)
  have hI1 : I [] W1 := by rw [← hW1]; exact h0 _ _
  refine ⟨w.heap.size + 1, [{ target := .collected w.heap.size, args := #[] }], W1, { target := .fn (.func gf) lb, args := #[.func (.yield (w.heap.size + 1)) #[] #[]] }, W1, gf,
    #[.func (.yield (w.heap.size + 1)) #[] #[]] ++ lb, W1, ?_, ?_, ?_, ?_, fun _ => h1, ?_⟩
  · rw [← hW1, hrc]; exact run_enterLoop_outer _ _ _ _ _
  · simp only [resolve, hg]
    simp [go_sem]
  · intro f' hf'; trivial
  · simp [invoke, go_sem, heg]
  · refine (hIt (n - 1) (w.heap.size + 1)
      (fun pre W => I pre W ∧ W.heap[w.heap.size + 1]? = some (.loop (rc .ready none)) ∧ W.heap[w.heap.size]? = some (.deferred (some [])))
      (fun pre W => Ix pre W ∧ W.heap[w.heap.size + 1]? = some (.loop (rc .done (some .ret))) ∧ W.heap[w.heap.size]? = some (.deferred (some [])))
      W1 (fun pre W hJ => hIM pre W hJ.1)
      (fun pre W W' hJ hb => ⟨hIb _ _ _ hJ.1 hb, (hb.block _ (Array.getElem?_eq_some_iff.1 hJ.2.1).1).trans hJ.2.1, (hb.block _ (Array.getElem?_eq_some_iff.1 hJ.2.2).1).trans hJ.2.2⟩) ?_ ⟨hI1, hL1, hK1⟩).mono ?_
    · rintro pre x W ⟨hi, hl, hk⟩ hr
      have hlt1 : w.heap.size + 1 < W.heap.size := (Array.getElem?_eq_some_iff.1 hl).1
      have hy := run_yield (P := Try.prog) (args := enc x) hl (by rw [hrc]; exact hps x)
      rw [hrc] at hy
      refine ⟨fn, _, assign, body, hy, roundIn_of_wpIn hfn (hassign _ x W _ ?_)⟩
      intro a2 W2 hb2 hbx
      have hl' : W2.heap[w.heap.size + 1]? = some (.loop (rc .ready none)) := (hb2.block _ hlt1).trans hl
      have hk' : W2.heap[w.heap.size]? = some (.deferred (some [])) := (hb2.block _ (by omega)).trans hk
      have hlt2 : w.heap.size + 1 < W2.heap.size := Nat.lt_of_lt_of_le hlt1 hb2.size
      refine ⟨_, run_beginRound hl' (by rw [hrc]), ?_⟩
      have hl2 : (W2.putObj (w.heap.size + 1) (.loop { rc .ready none with state := .busy })).heap[w.heap.size + 1]? = some (.loop { rc .ready none with state := .busy }) := World.putObj_heap_same hlt2
      have hk2 : (W2.putObj (w.heap.size + 1) (.loop { rc .ready none with state := .busy })).heap[w.heap.size]? = some (.deferred (some [])) := (World.putObj_heap_other (by omega)).trans hk'
      refine wpIn_mono (hbody _ pre x _ W.heap.size _ (hIp _ _ _ _ (.inr rfl) (hIb _ _ _ hi hb2)) hr hlt1 (by simpa using hb2.size) (hBp _ _ _ _ _ _ hlt1 hbx)) ?_
      have fin : ∀ (jump : Option Code) (W3 : World), TwoB w.heap.size (W2.putObj (w.heap.size + 1) (.loop { rc .ready none with state := .busy })) W3 →
          (Instr.endRound (w.heap.size + 1) jump).run Try.prog W3 = .ok (.bool jump.isNone) (W3.putObj (w.heap.size + 1) (.loop (rc (if jump.isNone then .ready else .done) jump))) ∧
          (W3.putObj (w.heap.size + 1) (.loop (rc (if jump.isNone then .ready else .done) jump))).heap[w.heap.size + 1]? = some (.loop (rc (if jump.isNone then .ready else .done) jump)) ∧
          (W3.putObj (w.heap.size + 1) (.loop (rc (if jump.isNone then .ready else .done) jump))).heap[w.heap.size]? = some (.deferred (some [])) := fun jump W3 h3 => by
        have hl3 := h3.2.trans hl2
        have := run_endRound (P := Try.prog) jump hl3
        rw [hrc] at this ⊢
        rw [hrc] at hl3
        exact ⟨this, World.putObj_heap_same (Array.getElem?_eq_some_iff.1 hl3).1, (World.putObj_heap_other (by omega)).trans (h3.1.trans hk2)⟩
      rintro e a3 W3 hp
      cases e with
      | normal =>
        obtain ⟨h3, hi3⟩ := hp
        obtain ⟨hr3, hl4, hk4⟩ := fin none W3 h3
        exact ⟨_, _, hr3, .inl ⟨rfl, hIp _ _ _ _ (.inr rfl) hi3, hl4, hk4⟩⟩
      | ret =>
        obtain ⟨h3, hi3⟩ := hp
        obtain ⟨hr3, hl4, hk4⟩ := fin (some .ret) W3 h3
        exact ⟨_, _, hr3, .inr ⟨rfl, hXp _ _ _ _ (.inr rfl) hi3, hl4, hk4⟩⟩
      | exit id => exact hp.elim
      | goto t => exact hp.elim
      | panic ch => exact hp.elim
      | outgrown => exact hp.elim
    · rintro e W2 ⟨⟨v, rfl⟩, (⟨hi, hl, hk⟩ | ⟨pre, hpre, hi, hl, hk⟩)⟩
      · exact ⟨none, _, by have := run_endLoop (P := Try.prog) hl (by rw [hrc]; simp); rw [hrc] at this; exact this, hdone _ (hIp _ _ _ _ (.inr rfl) hi) ((World.putObj_heap_other (by omega)).trans hk)⟩
      · exact ⟨some .ret, _, by have := run_endLoop (P := Try.prog) hl (by rw [hrc]; simp); rw [hrc] at this; exact this, hstop pre _ hpre (hXp _ _ _ _ (.inr rfl) hi) ((World.putObj_heap_other (by omega)).trans hk)⟩
end Go.Proofs.Ytjlflmbifeocbaa

namespace Go.Proofs.Ytjlflmbifeocbaa
open Go.RowKit

set_option maxRecDepth 100000 in
set_option maxHeartbeats 4000000 in
theorem orS_any (b o : Nat) (x y : ByteArray) (w : World) (hx : w.cell? ⟨b, o, none⟩ = some (.string x)) (hy : w.cell? ⟨b, o + 1, none⟩ = some (.string y)) :
    Calls Try.prog 32 #[.slice (some ⟨b, o, none⟩) 2 2] w fun e w' => e = .returned (.string (if (x.toList == ([] : List UInt8)) = true then y else x)) ∧ w' = w := by
  cases h1 : (x.toList == ([] : List UInt8)) with
  | false =>
    have hne : (x.toList != ([] : List UInt8)) = true := by simpa using h1
    go_enter Try.func32, Try.ntmps32
    go_wp2
    go_loopw [8] (fun i wr => i = .int .i64 0 ∧ wr = w) (fun i _ => 2 - (intOf i).toNat)
    case atStart => exact ⟨rfl, rfl⟩
    case round =>
      obtain ⟨rfl, rfl⟩ := hrel
      go_wp2
      go_ret
      exact ⟨rfl, rfl⟩
  | true =>
    have hne : (x.toList != ([] : List UInt8)) = false := by simpa using h1
    go_enter Try.func32, Try.ntmps32
    go_wp2
    go_loopw [8] (fun i wr => ∃ k : Nat, i = .int .i64 k ∧ k ≤ 2 ∧ Keep (k = 2 → y = ⟨#[]⟩) ∧ w = wr) (fun i _ => 2 - (intOf i).toNat)
    case atStart => exact ⟨0, rfl, by omega, ⟨fun h => by omega⟩, rfl⟩
    case round =>
      obtain ⟨k, rfl, hk, HK, rfl⟩ := hrel
      by_cases h2 : k = 2
      · have hy2 := HK.out h2
        subst h2 hy2
        clear HK
        go_wp2
        go_ret
        exact ⟨rfl, rfl⟩
      · by_cases h0 : k = 0
        · subst h0
          go_wp2
          go_roundw
          case rel => exact ⟨1, rfl, by omega, ⟨fun h => by omega⟩, trivial⟩
          case measure => simp only [intOf]; omega
        · obtain rfl : k = 1 := by omega
          cases h3 : (y.toList == ([] : List UInt8)) with
          | false =>
            have hne3 : (y.toList != ([] : List UInt8)) = true := by simpa using h3
            go_wp2
            go_ret
            exact ⟨rfl, rfl⟩
          | true =>
            have hne3 : (y.toList != ([] : List UInt8)) = false := by simpa using h3
            have HY : Keep (y = ⟨#[]⟩) := ⟨WideShapes.bytes_inj (by rw [← Lib.toList_data, (by simpa using h3 : y.toList = [])])⟩
            go_wp2
            go_roundw
            case rel => exact ⟨2, rfl, by omega, ⟨fun _ => HY.out⟩, trivial⟩
            case measure => simp only [intOf]; omega
end Go.Proofs.Ytjlflmbifeocbaa

namespace Go.Proofs.Ytjlflmbifeocbaa
open Go.RowKit

theorem count_set : ∀ (l : List Bool) (i : Nat), l[i]? = some false → (l.set i true).count false + 1 = l.count false
  | [], i, h => by simp at h
  | b :: l, 0, h => by
    simp at h
    subst h
    simp
  | b :: l, i + 1, h => by
    have ih := count_set l i (by simpa using h)
    simp only [List.set_cons_succ, List.count_cons]
    omega

theorem getD_false {L : Array Bool} {i : Nat} (h : L.getD i true = false) : L.toList[i]? = some false := by
  rw [Array.getElem?_toList]
  cases hx : L[i]? with
  | none => rw [Array.getD_eq_getD_getElem?, hx] at h; simp at h
  | some b => rw [Array.getD_eq_getD_getElem?, hx] at h; simp at h; rw [h]

theorem wpAnyIn_inv {F : Fence} {n : Nat} {P : Program} {md : Region.Mode} {ops : Array Oper} {Q : Exit → Act → World → Prop} (Inv : Array Bool → Act → World → Prop)
    (hd : ∀ L a w, Inv L a w → Region.ready md ops L = [] → Q .normal a w)
    (hs : ∀ L a w i, Inv L a w → i ∈ Region.ready md ops L → wpOpIn F n P ops Q i (Inv (L.setIfInBounds i true)) a w) :
    ∀ (fuel : Nat) (L : Array Bool) (a : Act) (w : World), L.toList.count false ≤ fuel → Inv L a w → wpAnyIn F n P md ops Q fuel L a w
  | 0, L, a, w, hc, hi => by
    have hr : Region.ready md ops L = [] := by
      cases hr : Region.ready md ops L with
      | nil => rfl
      | cons i r =>
        exfalso
        have hm : i ∈ Region.ready md ops L := by rw [hr]; simp
        have h1 := getD_false (mem_ready.1 hm).1
        have h2 := count_set _ _ h1
        omega
    exact ⟨hr, hd L a w hi hr⟩
  | fuel + 1, L, a, w, hc, hi => ⟨hd L a w hi, fun i hi' => wpOpIn_mono (fun a' w' h => wpAnyIn_inv Inv hd hs fuel _ a' w' (by
      have h1 := count_set _ _ (getD_false (mem_ready.1 hi').1)
      rw [Array.toList_setIfInBounds]
      omega) h) (hs L a w i hi hi')⟩

theorem getD_repl (n j : Nat) : (Array.replicate n false).getD j false = false := by
  rw [Array.getD_eq_getD_getElem?, Array.getElem?_replicate]
  split <;> rfl
theorem getD_ft {L : Array Bool} {i : Nat} (h : L.getD i true = false) : L.getD i false = false := by
  rw [Array.getD_eq_getD_getElem?] at h ⊢
  cases hx : L[i]? with
  | none => rw [hx] at h; simp at h
  | some b => rw [hx] at h; simpa using h
theorem getD_tt {L : Array Bool} {i : Nat} (hi : i < L.size) (h : L.getD i true = true) : L.getD i false = true := by
  rw [Array.getD_eq_getD_getElem?, Array.getElem?_eq_getElem hi] at h ⊢
  simpa using h

/-- What a done operation waited for is done. -/
def ClosedB (ops : Array Oper) (L : Array Bool) : Prop := ∀ i o, ops[i]? = some o → L.getD i false = true → ∀ e ∈ o.after, Region.binds .any e = true → L.getD e.on false = true
def lexAll (ops : Array Oper) : Bool := (List.range ops.size).all fun i => match ops[i]? with
  | some o => o.after.all fun e => decide (e.on < i)
  | none => true

theorem wpIn_region_inv {F : Fence} {n : Nat} {P : Program} {id : Nat} {ops : Array Oper} {Q : Exit → Act → World → Prop} {a : Act} {w : World} (hm : P.follows .mixedOrders = true) (hlex : lexAll ops = true) (Inv : Array Bool → Act → World → Prop)
    (h0 : Inv (Array.replicate ops.size false) a w.drew)
    (hd : ∀ L a w, Inv L a w → (∀ i, i < ops.size → L.getD i false = true) → Q .normal a w)
    (hs : ∀ L a w i o, Inv L a w → ClosedB ops L → L.getD i true = false → ops[i]? = some o → (∀ e ∈ o.after, Region.binds .any e = true → L.getD e.on false = true) → wpOpIn F n P ops Q i (Inv (L.setIfInBounds i true)) a w) :
    (Code.region id ops true).wpIn F n P Q a w := by
  have hc0 : ClosedB ops (Array.replicate ops.size false) := fun i o _ h => by rw [getD_repl] at h; cases h
  refine wpIn_region_any hm (wpAnyIn_inv (fun L a w => Inv L a w ∧ ClosedB ops L ∧ L.size = ops.size) ?_ ?_ ops.size _ a _ (by simp) ⟨h0, hc0, by simp⟩)
  · rintro L a w ⟨hi, hc, hz⟩ hr
    refine hd L a w hi ?_
    have key : ∀ n i, i < n → i < ops.size → L.getD i false = true := by
      intro n
      induction n with
      | zero => intro i h; omega
      | succ n ih =>
        intro i h hlt
        refine getD_tt (by omega) ?_
        cases hb : L.getD i true with
        | true => rfl
        | false =>
          exfalso
          have : i ∈ Region.ready .any ops L := mem_ready.2 ⟨hb, ops[i], Array.getElem?_eq_getElem hlt, fun e he _ => by
            have hle : e.on < i := by
              have h1 := List.all_eq_true.1 hlex i (by simpa using hlt)
              rw [Array.getElem?_eq_getElem hlt] at h1
              simp only [Array.all_eq_true_iff_forall_mem, decide_eq_true_eq] at h1
              exact h1 e he
            exact ih e.on (by omega) (by omega)⟩
          rw [hr] at this
          cases this
    exact fun i hi => key (i + 1) i (by omega) hi
  · rintro L a w i ⟨hi, hc, hz⟩ hr
    obtain ⟨h1, o, h2, h3⟩ := mem_ready.1 hr
    refine wpOpIn_mono (fun a' w' h => ⟨h, fun j o' ho' hj e he hb => ?_, by simpa using hz⟩) (hs L a w i o hi hc h1 h2 h3)
    by_cases e' : j = i
    · subst e'
      rw [h2] at ho'
      cases ho'
      exact getD_set_true (h3 e he hb)
    · rw [getD_set_ne false (fun x => e' x.symm)] at hj
      exact getD_set_true (hc j o' ho' hj e he hb)

/-- What lies in the slots: those ahead of the region, and those of the operations that are done. -/
structure Sl (N d0 : Nat) (base tab : Nat → Option Value) (L : Array Bool) (a : Act) : Prop where
  sz : a.tmps.size = N
  bs : ∀ k v, base k = some v → k < d0 ∧ a.eval (.tmp k) = v
  sl : ∀ j v, tab j = some v → L.getD j false = true → a.eval (.tmp (d0 + j)) = v
theorem Sl.put {N d0 : Nat} {base tab : Nat → Option Value} {L : Array Bool} {a : Act} (h : Sl N d0 base tab L a) {i : Nat} {v : Value} (hi : d0 + i < N) (ht : ∀ u, tab i = some u → u = v) : Sl N d0 base tab (L.setIfInBounds i true) (a.put (some (d0 + i)) v) := by
  refine ⟨by simp [Act.put, h.sz], fun k u hk => ?_, fun j u hj hL => ?_⟩
  · obtain ⟨h1, h2⟩ := h.bs k u hk
    refine ⟨h1, ?_⟩
    rw [Act.eval_put (fun d hd => by cases hd; intro e; injection e with e; have e2 : k = d0 + i := e; omega)]
    exact h2
  · by_cases e : j = i
    · subst e
      rw [ht u hj]
      show ((a.tmps.setIfInBounds (d0 + j) v).getD (d0 + j) undef) = v
      rw [Array.getD_eq_getD_getElem?, Array.getElem?_setIfInBounds_self_of_lt (by rw [h.sz]; exact hi)]
      rfl
    · rw [getD_set_ne false (fun e' => e e'.symm)] at hL
      rw [Act.eval_put (fun d hd => by cases hd; intro e'; injection e' with e'; have e2 : d0 + j = d0 + i := e'; omega)]
      exact h.sl j u hj hL
end Go.Proofs.Ytjlflmbifeocbaa

namespace Go.Proofs.Ytjlflmbifeocbaa
open Go.RowKit

structure EBox (b : Nat) (e : En) (W : World) : Prop where
  c0 : W.cell? ⟨b, 0, none⟩ = some (.string e.path)
  c1 : W.cell? ⟨b, 1, none⟩ = some (.string e.text)
  c2 : W.cell? ⟨b, 2, none⟩ = some (.bool e.runs)

theorem EBox.put {b l : Nat} {e : En} {W : World} (h : EBox b e W) (o : Obj) (hl : l ≠ b) : EBox b e (W.putObj l o) := by
  have hb : (W.putObj l o).heap[b]? = W.heap[b]? := World.putObj_heap_other (fun e => hl e.symm)
  exact ⟨(World.cell?_of_block hb).trans h.c0, (World.cell?_of_block hb).trans h.c1, (World.cell?_of_block hb).trans h.c2⟩
theorem EBox.later {b : Nat} {e : En} {W W' : World} (h : EBox b e W) (hb : Below W.heap.size W W') : EBox b e W' := ⟨cell_later hb h.c0, cell_later hb h.c1, cell_later hb h.c2⟩
end Go.Proofs.Ytjlflmbifeocbaa

namespace Go.Proofs.Ytjlflmbifeocbaa
open Go.RowKit

set_option maxRecDepth 20000 in
set_option maxHeartbeats 1000000 in
theorem change_none (h : Nat) (p : ByteArray) (f g : Fl) (w : World) (hs : sameF f g = true) :
    Calls Try.prog 31 #[.pointer (some ⟨h, 0, none⟩), .string p, flV f, flV g] w fun e w' => e = .returned (.tuple #[]) ∧ Below w.heap.size w w' := by
  unfold flV
  have hal : Below w.heap.size w ((w.alloc (.cells #[.bool f.there, .string f.text, .bool f.runs] 54)).alloc (.cells #[.bool g.there, .string g.text, .bool g.runs] 54)) := ((Below.refl _ _).alloc (Nat.le_refl _) _).alloc (by simp) _
  obtain ⟨h1, h2, h3⟩ : f.there = g.there ∧ f.text.toList = g.text.toList ∧ f.runs = g.runs := by simpa [sameF, and_assoc] using hs
  rw [h1, h3] at hal
  go_enter Try.func31, Try.ntmps31
  go_wp2
  refine bodyPost_end (v := .tuple #[]) ?_ rfl ⟨rfl, hal⟩
  go_light
  simp [results, Try.results31, go_sem]
end Go.Proofs.Ytjlflmbifeocbaa

namespace Go.Proofs.Ytjlflmbifeocbaa
open Go.RowKit

set_option maxHeartbeats 1000000 in
theorem isEntry_any (e : En) (hs : e.path.size ≤ 1099511627776) (w : World) :
    Calls Try.prog 69 #[.agg #[.string e.path, .string e.text, .bool e.runs]] w fun x w' => x = .returned (.bool (enOk e)) ∧ Below w.heap.size w w' := by
  have hal : Below w.heap.size w (w.alloc (.cells #[.string e.path, .string e.text, .bool e.runs] 57)) := (Below.refl _ _).alloc (Nat.le_refl _) _
  cases hp : pathOk pathB e.path with
  | false =>
    go_enter Try.func69, Try.ntmps69
    go_wp2_with fail
    refine (implPath_any e.path hs _).mono ?_
    rintro x w1 ⟨rfl, hb⟩
    rw [hp]
    go_wp2
    go_ret
    exact ⟨retB (by simp [enOk, hp]), hal.trans (hb.mono hal.size)⟩
  | true =>
    go_enter Try.func69, Try.ntmps69
    go_wp2_with fail
    refine (implPath_any e.path hs _).mono ?_
    rintro x w1 ⟨rfl, hb⟩
    rw [hp]
    have x1 := hb.cell (p := ⟨w.heap.size, 1, none⟩) (by simp)
    simp at x1
    go_wp2
    go_ret
    refine ⟨retB ?_, hal.trans (hb.mono hal.size)⟩
    have : ((e.text.size : Int) ≤ 1500) ↔ e.text.size ≤ 1500 := by omega
    simp [enOk, hp, this]

theorem tree_new (w : World) : TreeM w.heap.size 0 ((w.alloc (.map #[] 0)).alloc (.cells #[.bool false, .string ⟨#[]⟩, .bool false, .map (some w.heap.size)] 117)) (fun q => if q = [] then some (w.heap.size + 1) else none) (fun _ => w.heap.size) (fun _ => none) := by
  refine ⟨fun p b hb => ?_, fun p q b hp hq => ?_, fun p q hp hq _ => ?_, fun p x h => ?_, by simp⟩
  · by_cases e : p = []
    · subst e
      simp at hb
      subst hb
      refine ⟨?_, by omega, Nat.le_refl _, ?_⟩
      · have := World.alloc_heap_new (w.alloc (.map #[] 0)) (nodeObj none w.heap.size)
        rw [World.size_alloc] at this
        exact this
      · have hm : (w.alloc (.map #[] 0)).ownsMap Try.prog 9 ptrR w.heap.size 0 (.map []) := World.ownsMap_made _ _ _ _
        obtain ⟨es, cl, m1, m2⟩ := hm
        refine ⟨0, .map [], ⟨es, cl, (Below.heap_alloc _ _ _ (by simp)).trans m1, m2⟩, Nat.le_refl _, fun x _ => ?_, ⟨fun _ x => by simp, fun _ => rfl⟩, fun y hy => by rw [Maps.has_eq] at hy; simp at hy⟩
        simp
        rfl
    · simp [e] at hb
  · by_cases e1 : p = [] <;> by_cases e2 : q = [] <;> simp [e1, e2] at hp hq ⊢
  · by_cases e1 : p = [] <;> by_cases e2 : q = [] <;> simp [e1, e2] at hp hq ⊢
  · simp at h

theorem path_pos {p : Int → Bool} {s : ByteArray} (h : pathOk p s = true) : 0 < s.size := by
  simp only [pathOk, Bool.and_eq_true] at h
  have h2 := h.2
  rw [partsB_cut] at h2
  simp only [List.all_cons, Bool.and_eq_true] at h2
  have h3 := h2.1
  simp only [partOk, Bool.and_eq_true, decide_eq_true_eq] at h3
  have := cutHead_size s
  omega

/-- What grow answers. -/
def GrowPost (ts : List En) (w : World) (e : Ending) (w' : World) : Prop :=
  Below w.heap.size w w' ∧
  ((ValidTs ts ∧ ∃ root, e = .returned (.tuple #[.pointer (some ⟨root, 0, none⟩), .bool true]) ∧ ∃ lo N β μ φ, w.heap.size ≤ lo ∧ N ≤ 1000 ∧ TreeM lo N w' β μ φ ∧ β [] = some root ∧ Shape ts β φ) ∨
   (¬ ValidTs ts ∧ e = .returned (.tuple #[.pointer none, .bool false])))

theorem parts6 {e : En} (h : enOk e = true) : (partsB e.path).length ≤ 6 ∧ e.path.size ≤ 126 := by
  simp only [enOk, Bool.and_eq_true] at h
  refine ⟨?_, pathOk_size h.1⟩
  have := h.1
  simp only [pathOk, Bool.and_eq_true, decide_eq_true_eq] at this
  exact this.1

set_option maxRecDepth 100000 in
set_option maxHeartbeats 4000000 in
theorem grow_any (a : Option Addr) (cap : Nat) (ts : List En) (w : World) (hts : ES w a ts) (hn : ts.length ≤ 1048576) (hz : ∀ e ∈ ts, e.path.size ≤ 1048576) :
    Calls Try.prog 55 #[.agg #[.slice a ts.length cap]] w fun e w' => GrowPost ts w e w' := by
  by_cases h100 : (100 : Int) < ts.length
  · go_enter Try.func55, Try.ntmps55
    go_wp2
    go_ret2
    exact ⟨(Below.refl _ _).alloc (Nat.le_refl _) _, .inr ⟨fun h => by have := h.1; omega, rfl⟩⟩
  have hbT : Below w.heap.size w (w.alloc (.cells #[.slice a ts.length cap] 25)) := (Below.refl _ _).alloc (Nat.le_refl _) _
  have htT := hts.below hbT
  have hcT : (w.alloc (.cells #[.slice a ts.length cap] 25)).cell? ⟨w.heap.size, 0, none⟩ = some (.slice a ts.length cap) := by simp
  have hsT : (w.alloc (.cells #[.slice a ts.length cap] 25)).heap.size = w.heap.size + 1 := by simp
  go_enter Try.func55, Try.ntmps55
  go_wp2_with fail
  have hnew := tree_new (w.alloc (.cells #[.slice a ts.length cap] 25))
  have hbN : Below (w.heap.size + 1) (w.alloc (.cells #[.slice a ts.length cap] 25)) (((w.alloc (.cells #[.slice a ts.length cap] 25)).alloc (.map #[] 0)).alloc (.cells #[.bool false, .string ⟨#[]⟩, .bool false, .map (some (w.heap.size + 1))] 117)) := ((Below.refl _ _).alloc (by simp) _).alloc (by simp) _
  rw [hsT] at hnew
  refine (newNode_any _).mono ?_
  rintro e w1 ⟨rfl, rfl⟩
  go_wp2
  have hwf : w.heap.size < w.heap.size + 1 := by omega
  obtain ⟨L, hL⟩ : ∃ L, L = w.heap.size + 1 := ⟨_, rfl⟩
  rw [← hL] at hnew hbN hsT hwf ⊢
  have HL : Keep (L = w.heap.size + 1) := ⟨hL⟩
  clear hL
  generalize hwN : ((w.alloc (.cells #[.slice a ts.length cap] 25)).alloc (.map #[] 0)).alloc (.cells #[.bool false, .string ⟨#[]⟩, .bool false, .map (some L)] 117) = Wn at *
  generalize hwT : w.alloc (.cells #[.slice a ts.length cap] 25) = wT at *
  have HS : Keep (wT.heap.size = L) := ⟨hsT⟩
  have hLe : wT.heap.size ≤ L := by omega
  have hLg : L ≤ wT.heap.size := by omega
  clear hsT hwN hwT
  have hsh : Shape (ts.take 0) (fun q => if q = [] then some (L + 1) else none) (fun _ => none) := Shape.start (fun q => by by_cases e : q = [] <;> simp [e]) (fun _ => rfl)
  go_loopw [15] (fun i wr => ∃ (k N : Nat) (β : Way → Option Nat) (μ : Way → Nat) (φ : Way → Option (ByteArray × Bool)), i = .int .i64 k ∧ k ≤ ts.length ∧ TreeM L N wr β μ φ ∧ N ≤ 6 * k ∧ β [] = some (L + 1) ∧ Shape (ts.take k) β φ ∧ Keep (∀ i, i < k → OkAt ts i) ∧ Below L wT wr) (fun i _ => ts.length - (intOf i).toNat)
  case atStart => exact ⟨0, 0, _, _, _, rfl, Nat.zero_le _, hnew, Nat.le_refl _, by simp, hsh, ⟨fun i hi => by omega⟩, hbN⟩
  case round =>
    clear hnew hbN hsh
    obtain ⟨k, N, β, μ, φ, rfl, hk, hT, hN, hroot, hS, hok, hB⟩ := hrel
    have hBT : Below wT.heap.size wT wr := HS.out ▸ hB
    have hE := htT.below hBT
    have hcT' := (hB.cell (p := ⟨w.heap.size, 0, none⟩) hwf).trans hcT
    have hBw := hbT.trans (hBT.mono hbT.size)
    by_cases hlt : k < ts.length
    · have hlt' : (k : Int) < ts.length := by omega
      obtain ⟨b, off, rfl, hc⟩ := hE.at hlt
      obtain ⟨x0, x1, x2⟩ := hc k hlt
      have hals : Below wr.heap.size wr (wr.alloc (.cells #[.string ts[k].path, .string ts[k].text, .bool ts[k].runs] 57)) := (Below.refl _ _).alloc (Nat.le_refl _) _
      have hcT2 := cell_later hals hcT'
      have hT2 := hT.below hals
      have hBw2 := hBw.trans (hals.mono hBw.size)
      have hBL2 := hB.alloc (Nat.le_trans hLg hBT.size) (.cells #[.string ts[k].path, .string ts[k].text, .bool ts[k].runs] 57)
      have hzk := hz ts[k] (List.getElem_mem hlt)
      have hprev : ∀ j (hj : j < ts.length), j + 1 = k → (wr.alloc (.cells #[.string ts[k].path, .string ts[k].text, .bool ts[k].runs] 57)).cell? ⟨b, off + j * 3, none⟩ = some (.string ts[j].path) := fun j hj _ => cell_later hals (hc j hj).1
      have hbad : ¬ OkAt ts k → ¬ ValidTs ts := fun h1 h2 => h1 (h2.2 k hlt)
      clear hc hE htT hts
      have hbnd : N ≤ 600 := by omega
      go_upto_region 7 with fail
      go_cut [33] (fun v wx => ∃ bl : Bool, v = .bool bl ∧ (bl = false ↔ ∀ j, j + 1 = k → ∀ hj : j < ts.length, Op.bytesLess ts[j].path.toList ts[k].path.toList = true) ∧ ∃ n, wx = (wr.alloc (.cells #[.string ts[k].path, .string ts[k].text, .bool ts[k].runs] 57)).drewN n)
      case first =>
        by_cases hk0 : k = 0
        · have hkd : decide (0 < k) = false := by simp [hk0]
          go_quiet (fail)
          go_wp2_with fail
          go_meet
          case rel => exact ⟨false, rfl, ⟨fun _ j hj => by omega, fun _ => rfl⟩, _, rfl⟩
        · obtain ⟨j, rfl⟩ : ∃ j, k = j + 1 := ⟨k - 1, by omega⟩
          have hp := hprev j (by omega) rfl
          have hk0' : (0 : Int) < ((j + 1 : Nat) : Int) := by omega
          have hkd : decide (0 < j + 1) = true := by simp
          have htot := less_total ts[j].path.toList ts[j + 1].path.toList
          have HT : Keep ((!(Op.bytesLess ts[j].path.toList ts[j + 1].path.toList)) = (Op.bytesLess ts[j + 1].path.toList ts[j].path.toList || ts[j + 1].path.toList == ts[j].path.toList)) := ⟨htot⟩
          clear htot
          go_quiet (fail)
          go_wp2_with fail
          go_meet
          case rel =>
            refine ⟨_, rfl, ?_, _, rfl⟩
            rw [← HT.out]
            constructor
            · intro h j' hj' hl
              obtain rfl : j' = j := by omega
              simpa using h
            · intro h
              have := h j rfl (by omega)
              rw [this]; rfl
      case rest =>
        obtain ⟨bl, rfl, hbl, nq, rfl⟩ := hcut
        have HB : Keep (bl = false ↔ ∀ j, j + 1 = k → ∀ hj : j < ts.length, Op.bytesLess ts[j].path.toList ts[k].path.toList = true) := ⟨hbl⟩
        clear hbl hprev
        have y0 : ((wr.alloc (.cells #[.string ts[k].path, .string ts[k].text, .bool ts[k].runs] 57)).drewN nq).cell? ⟨wr.heap.size, 0, none⟩ = some (.string ts[k].path) := by simp
        have y1 : ((wr.alloc (.cells #[.string ts[k].path, .string ts[k].text, .bool ts[k].runs] 57)).drewN nq).cell? ⟨wr.heap.size, 1, none⟩ = some (.string ts[k].text) := by simp
        have y2 : ((wr.alloc (.cells #[.string ts[k].path, .string ts[k].text, .bool ts[k].runs] 57)).drewN nq).cell? ⟨wr.heap.size, 2, none⟩ = some (.bool ts[k].runs) := by simp
        have hT5 : TreeM L N ((wr.alloc (.cells #[.string ts[k].path, .string ts[k].text, .bool ts[k].runs] 57)).drewN nq) β μ φ := hT2.turn (fun _ _ => rfl)
        have hB5 : Below L wT ((wr.alloc (.cells #[.string ts[k].path, .string ts[k].text, .bool ts[k].runs] 57)).drewN nq) := hBL2.trans ⟨rfl, rfl, rfl, Nat.le_refl _, fun _ _ => rfl⟩
        have hBw5 : Below w.heap.size w ((wr.alloc (.cells #[.string ts[k].path, .string ts[k].text, .bool ts[k].runs] 57)).drewN nq) := hBw2.trans ⟨rfl, rfl, rfl, Nat.le_refl _, fun _ _ => rfl⟩
        generalize (wr.alloc (.cells #[.string ts[k].path, .string ts[k].text, .bool ts[k].runs] 57)).drewN nq = W5 at *
        clear hBw2 hBL2 hT2 hcT2 hals x0 x1 x2 hBw hcT' hBT hB hT
        generalize wr.heap.size = be at *
        cases bl with
        | true =>
          go_wp2
          go_ret2
          refine ⟨hBw5, .inr ⟨hbad (fun ⟨_, _, h2, _⟩ => ?_), rfl⟩⟩
          have := HB.out.2 h2
          cases this
        | false =>
          have hpl := HB.out.1 rfl
          have HP : Keep (∀ j, j + 1 = k → ∀ hj : j < ts.length, Op.bytesLess ts[j].path.toList ts[k].path.toList = true) := ⟨hpl⟩
          clear hpl HB
          go_wp2_with fail
          refine (isEntry_any ts[k] (by omega) _).mono ?_
          rintro x w6 ⟨rfl, hb6⟩
          cases hen : enOk ts[k] with
          | false =>
            go_wp2
            go_ret2
            refine ⟨hBw5.trans (hb6.mono hBw5.size), .inr ⟨hbad (fun ⟨_, h1, _, _⟩ => ?_), rfl⟩⟩
            rw [hen] at h1
            cases h1
          | true =>
            obtain ⟨h6, h126⟩ := parts6 hen
            have y0 := cell_later hb6 y0
            have y1 := cell_later hb6 y1
            have y2 := cell_later hb6 y2
            have hT6 := hT5.below hb6
            have hBw6 := hBw5.trans (hb6.mono hBw5.size)
            have hLw : L ≤ W5.heap.size := Nat.le_trans hLg hB5.size
            have hB6 := hB5.trans (hb6.mono hLw)
            have hLw6 : L ≤ w6.heap.size := Nat.le_trans hLw hb6.size
            have hless := asc_all hok.out hlt HP.out
            have hbi := blocked_iff hS ts[k] hless
            have HBI : Keep (Blocked β φ (partsB ts[k].path) ↔ ∃ e' ∈ ts.take k, Begins e'.path ts[k].path) := ⟨hbi⟩
            have hlay := lay_any L N (L + 1) w6 β μ φ hT6 hS.files_nodes hroot (by omega) ts[k] (by omega) (path_pos (by simp only [enOk, Bool.and_eq_true] at hen; exact hen.1))
            clear hless hbi hT5 hB5 hBw5 hb6
            go_wp2_with fail
            refine hlay.mono ?_
            rintro x w7 (⟨rfl, hnb, ⟨β', μ', hT7, hgr, hr7⟩, hBT7⟩ | ⟨rfl, hbl, _, hBT7⟩)
            · have hB7 := hBT7.below hT6 hLw6
              have hS7 := hS.laid ts[k] (by
                cases hx : φ (partsB ts[k].path) with
                | none => rfl
                | some f => exact absurd (.inr (.inl (by rw [hx]; simp))) hnb) hgr
              rw [← List.take_succ_eq_append_getElem hlt] at hS7
              have hok7 : Keep (∀ i, i < k + 1 → OkAt ts i) := ⟨fun i hi => by
                by_cases e : i = k
                · subst e
                  exact ⟨hlt, hen, HP.out, fun e' he hb => hnb (HBI.out.2 ⟨e', he, hb⟩)⟩
                · exact hok.out i (by omega)⟩
              clear hlay HBI hnb hgr hS
              go_wp2
              go_roundw
              case rel => exact ⟨k + 1, N + (partsB ts[k].path).length, β', μ', _, by congr 1, hlt, hT7, by omega, by rw [hr7]; exact hroot, hS7, hok7, hB6.trans hB7⟩
              case measure => simp only [intOf]; omega
            · have hB7 := hBT7.below hT6 hLw6
              have hBw7 : Below w.heap.size w w7 := hBw6.trans (hB7.mono (by omega))
              clear hlay
              go_wp2
              go_ret2
              refine ⟨hBw7, .inr ⟨hbad (fun ⟨_, _, _, h3⟩ => ?_), rfl⟩⟩
              obtain ⟨e', he, hb⟩ := HBI.out.1 hbl
              exact h3 e' he hb
    · obtain rfl : k = ts.length := by omega
      go_wp2
      go_ret2
      rw [List.take_length] at hS
      exact ⟨hBw, .inl ⟨⟨by omega, hok.out⟩, L + 1, rfl, L, N, β, μ, φ, by omega, by omega, hT, hroot, hS⟩⟩
end Go.Proofs.Ytjlflmbifeocbaa

namespace Go.Proofs.Ytjlflmbifeocbaa
open Go.RowKit

set_option maxHeartbeats 1000000 in
theorem implTree_any (a : Option Addr) (cap : Nat) (ts : List En) (w : World) (hts : ES w a ts) (hn : ts.length ≤ 1048576) (hz : ∀ e ∈ ts, e.path.size ≤ 1048576) :
    Calls Try.prog 29 #[.agg #[.slice a ts.length cap]] w fun e w' => ∃ bl : Bool, e = .returned (.bool bl) ∧ (bl = true ↔ ValidTs ts) ∧ Below w.heap.size w w' := by
  have hal : Below w.heap.size w (w.alloc (.cells #[.slice a ts.length cap] 25)) := (Below.refl _ _).alloc (Nat.le_refl _) _
  go_enter Try.func29, Try.ntmps29
  go_wp2_with fail
  refine (grow_any a cap ts _ (hts.below hal) hn hz).mono ?_
  rintro e w1 ⟨hb, ⟨hv, root, rfl, _⟩ | ⟨hv, rfl⟩⟩
  · go_wp2
    go_ret
    exact ⟨true, rfl, ⟨fun _ => hv, fun _ => rfl⟩, hal.trans (hb.mono hal.size)⟩
  · go_wp2
    go_ret
    exact ⟨false, rfl, ⟨fun h => (by cases h), fun h => absurd h hv⟩, hal.trans (hb.mono hal.size)⟩
end Go.Proofs.Ytjlflmbifeocbaa

namespace Go.Proofs.Ytjlflmbifeocbaa
open Go.RowKit Go.Shelf

attribute [local go_sem] Oper.semAt_some

theorem sideE_iter (Ba Bb : Nat) (a b : Option Addr) (ca cb : Nat) (ts us : List En) (hca : ts.length ≤ ca) (hcb : us.length ≤ cb) (hnt : ts.length ≤ 1048576) (hnu : us.length ≤ 1048576) :
    Iter 56 #[.pointer (some ⟨Ba, 0, none⟩), .pointer (some ⟨Bb, 0, none⟩)] yE (mrgE ts us) (sideMemE Ba Bb a b ca cb ts us) :=
  fun n l J Jx W hM hJ hY h0 => sideE1_in n l Ba Bb a b ca cb ts us hca hcb hnt hnu J Jx W hM hJ hY h0

theorem OutCh.put {h l : Nat} {W0 W : World} {v : Value} {us : List Ch} (s : OutCh h W0 v us W) (o : Obj) (hl : l < W0.heap.size) (hne : l ≠ h) : OutCh h (W0.putObj l o) v us (W.putObj l o) := by
  have hb : ∀ (X : World) (k : Nat), k ≠ l → (X.putObj l o).heap[k]? = X.heap[k]? := fun X k hk => World.putObj_heap_other hk
  have hh := hb W h (fun e => hne e.symm)
  have hg : W.grownBy (W.putObj l o) (some l) := ⟨rfl, rfl, rfl, by simp, fun k _ hk => hb W k (fun e => hk (by rw [e]))⟩
  have hlW := Nat.lt_of_lt_of_le hl s.grown.size
  refine ⟨(World.cell?_of_block hh).trans s.cell, frozen_of hh s.fz, ?_, ⟨s.grown.os, s.grown.tape, s.grown.output, by simpa using s.grown.size, fun k hk hkh => ?_⟩, by simpa using s.lt⟩
  · have h1 := s.row.kept hg (Or.inr (fun e => by have := owns_row_ge s.row e; omega))
    simpa using h1
  · have hk' : k < W0.heap.size := by simpa using hk
    by_cases e : k = l
    · subst e
      rw [World.putObj_heap_same hlW, World.putObj_heap_same hl]
    · rw [hb W k e, hb W0 k e]
      exact s.grown.block k hk' hkh

def DfI (wl : World) (ob : Nat) (pre : List PE) (W : World) : Prop :=
  ∃ Wz v, Wz.heap.size = wl.heap.size + 2 ∧ Below wl.heap.size wl Wz ∧ OutCh ob Wz v (outsE pre) W

theorem chg_out (ob : Nat) (Wz : World) (v : Value) (us : List Ch) (x y : En) (w : World) (hst : OutCh ob Wz v us w) (hul : us.length ≤ 1048576) (hp : (orP x y).size ≤ 1048576) (hx : (fileE x).text.size ≤ 1048576) (hy : (fileE y).text.size ≤ 1048576) :
    Calls Try.prog 31 #[.pointer (some ⟨ob, 0, none⟩), .string (orP x y), flV (fileE x), flV (fileE y)] w fun e w' => e = .returned (.tuple #[]) ∧ ∃ v', OutCh ob Wz v' (us ++ outC x y) w' := by
  unfold outC
  cases hs : sameF (fileE x) (fileE y) with
  | true =>
    refine (change_none ob (orP x y) (fileE x) (fileE y) w hs).mono ?_
    rintro e w' ⟨rfl, hb⟩
    exact ⟨rfl, v, by simpa using hst.later hb⟩
  | false =>
    refine (change_any ob Wz v us ⟨orP x y, fileE x, fileE y⟩ w hst hul hs (by show (orP x y).size ≤ _; omega) (by show (fileE x).text.size ≤ _; omega) (by show (fileE y).text.size ≤ _; omega)).mono ?_
    rintro e w' ⟨rfl, ad, cap, h⟩
    exact ⟨rfl, _, by simpa using h⟩

theorem mrgE_is {ts us : List En} (ht : ValidTs ts) (hu : ValidTs us) : mrgE ts us = (pathsL [ts, us]).map fun p => (p, fnd En.path ts p, fnd En.path us p) := by
  have h1 := addP_asc (l := []) List.Pairwise.nil ts
  have h2 := addP_asc h1.1 us
  have hmem : ∀ p, p ∈ pathsL [ts, us] ↔ (∃ x ∈ ts, En.path x = p) ∨ ∃ y ∈ us, En.path y = p := fun p => by
    show p ∈ addP (addP [] ts) us ↔ _
    rw [h2.2, h1.2]
    simp
  exact mrg_eq En.path En.path (ts.length + us.length) ts us (pathsL [ts, us]) (Nat.le_refl _) (valid_asc ht) (valid_asc hu) h2.1 hmem
theorem mrg_len {α β : Type} (pa : α → ByteArray) (pb : β → ByteArray) : ∀ (n : Nat) (ts : List α) (us : List β), (mrg pa pb n ts us).length ≤ n
  | 0, _, _ => by simp [mrg]
  | n + 1, [], [] => by simp [mrg]
  | n + 1, [], y :: us => by have := mrg_len pa pb n [] us; simp only [mrg, List.length_cons]; omega
  | n + 1, x :: ts, [] => by have := mrg_len pa pb n ts []; simp only [mrg, List.length_cons]; omega
  | n + 1, x :: ts, y :: us => by
    have h1 := mrg_len pa pb n ts (y :: us)
    have h2 := mrg_len pa pb n (x :: ts) us
    have h3 := mrg_len pa pb n ts us
    simp only [mrg]
    split
    · simp only [List.length_cons]; omega
    · split
      · simp only [List.length_cons]; omega
      · simp only [List.length_cons]; omega
theorem outsE_len (pre : List PE) : (outsE pre).length ≤ pre.length := by
  induction pre with
  | nil => simp [outsE]
  | cons x pre ih =>
    have h1 : outsE (x :: pre) = outC (x.2.1.getD zeroE) (x.2.2.getD zeroE) ++ outsE pre := by simp [outsE]
    have h2 : (outC (x.2.1.getD zeroE) (x.2.2.getD zeroE)).length ≤ 1 := by unfold outC; split <;> simp
    rw [h1, List.length_append, List.length_cons]
    omega
theorem getD_ok {ts : List En} (h : ValidTs ts) (hz : ∀ e ∈ ts, e.path.size ≤ 1048576) (p : ByteArray) : ((fnd En.path ts p).getD zeroE).path.size ≤ 1048576 ∧ (fileE ((fnd En.path ts p).getD zeroE)).text.size ≤ 1048576 := by
  cases hf : fnd En.path ts p with
  | none => exact ⟨by simp [zeroE, ByteArray.size], by simp [zeroE, fileE, ByteArray.size]⟩
  | some e =>
    have he := (fnd_some hf).1
    have h1 := valid_enF h he
    simp only [enOk, Bool.and_eq_true, decide_eq_true_eq] at h1
    exact ⟨hz e he, by show e.text.size ≤ _; omega⟩

def dfBase (ob B : Nat) : Nat → Option Value
  | 5 => some (.pointer (some ⟨ob, 0, none⟩))
  | 6 => some (.pointer (some ⟨B, 0, none⟩))
  | 7 => some (.pointer (some ⟨B + 1, 0, none⟩))
  | _ => none
def dfTab (B : Nat) (X Y : En) : Nat → Option Value
  | 0 => some (.pointer (some ⟨B, 0, none⟩))
  | 1 => some (.string X.path)
  | 2 => some (.pointer (some ⟨B + 1, 0, none⟩))
  | 3 => some (.string Y.path)
  | 5 => some (.string (orP X Y))
  | 6 => some (.agg #[.string X.path, .string X.text, .bool X.runs])
  | 7 => some (.agg #[.bool (fileE X).there, .string (fileE X).text, .bool (fileE X).runs])
  | 8 => some (.agg #[.string Y.path, .string Y.text, .bool Y.runs])
  | 9 => some (.agg #[.bool (fileE Y).there, .string (fileE Y).text, .bool (fileE Y).runs])
  | _ => none
/-- Where the round's region stands. -/
structure DfV (W : World) (B ob : Nat) (X Y : En) (E : World → Prop) (L : Array Bool) (a : Act) (w : World) : Prop where
  sl : Sl 36 24 (dfBase ob B) (dfTab B X Y) L a
  wd : L.getD 10 false = false → ∃ z : Later W, w = z.world
  sc : L.getD 4 false = true → L.getD 10 false = false → ∃ b, a.eval (.tmp 28) = .slice (some ⟨b, 0, none⟩) 2 2 ∧ w.cell? ⟨b, 0, none⟩ = some (.string X.path) ∧ w.cell? ⟨b, 1, none⟩ = some (.string Y.path)
  fin : L.getD 10 false = true → E w

theorem evalD {a : Act} {k : Nat} {v : Value} (h : a.eval (.tmp k) = v) : a.tmps[k]?.getD undef = v := by
  rw [← Array.getD_eq_getD_getElem?]; exact h

theorem DfV.step {W : World} {B ob : Nat} {X Y : En} {E : World → Prop} {L : Array Bool} {a : Act} {z z' : Later W} (h : DfV W B ob X Y E L a z.world) {i : Nat} {v : Value} (hi : i < 10) (hi4 : i ≠ 4) (h10 : L.getD 10 false = false) (ht : dfTab B X Y i = some v) (hb : Below z.world.heap.size z.world z'.world) :
    DfV W B ob X Y E (L.setIfInBounds i true) (a.put (some (24 + i)) v) z'.world := by
  have g10 : (L.setIfInBounds i true).getD 10 false = false := by rw [getD_set_ne false (by omega)]; exact h10
  refine ⟨h.sl.put (by omega) (fun u hu => by rw [ht] at hu; cases hu; rfl), fun _ => ⟨z', rfl⟩, fun h4 _ => ?_, fun h => by rw [g10] at h; cases h⟩
  rw [getD_set_ne false (by omega)] at h4
  obtain ⟨b, h1, h2, h3⟩ := h.sc h4 h10
  exact ⟨b, by rw [Act.eval_put (fun d hd => by cases hd; intro e'; injection e' with e'; have e2 : 28 = 24 + i := e'; omega)]; exact h1, cell_later hb h2, cell_later hb h3⟩
theorem DfV.build {W : World} {B ob : Nat} {X Y : En} {E : World → Prop} {L : Array Bool} {a : Act} {z : Later W} {t : TypeId} (h : DfV W B ob X Y E L a z.world) (h10 : L.getD 10 false = false) :
    DfV W B ob X Y E (L.setIfInBounds 4 true) (a.put (some 28) (.slice (some ⟨z.world.heap.size, 0, none⟩) 2 2)) (z.world.alloc (.cells #[.string X.path, .string Y.path] t)) := by
  have g10 : (L.setIfInBounds 4 true).getD 10 false = false := by rw [getD_set_ne false (by omega)]; exact h10
  refine ⟨h.sl.put (i := 4) (by omega) (fun u hu => by cases hu), fun _ => ⟨⟨_, z.kept.alloc z.kept.size _⟩, rfl⟩, fun h4 _ => ⟨z.world.heap.size, ?_, by simp, by simp⟩, fun h => by rw [g10] at h; cases h⟩
  show ((a.tmps.setIfInBounds 28 _).getD 28 undef) = _
  rw [Array.getD_eq_getD_getElem?, Array.getElem?_setIfInBounds_self_of_lt (by rw [h.sl.sz]; omega)]
  rfl
theorem DfV.last {W : World} {B ob : Nat} {X Y : En} {E : World → Prop} {L : Array Bool} {a : Act} {w w' : World} {v : Value} (h : DfV W B ob X Y E L a w) (hE : E w') (hL : L.getD 10 true = false) :
    DfV W B ob X Y E (L.setIfInBounds 10 true) (a.put (some 34) v) w' := by
  have g10 : (L.setIfInBounds 10 true).getD 10 false = true := by
    have h1 := getD_false hL
    have h2 : 10 < L.size := by simpa using (List.getElem?_eq_some_iff.1 h1).1
    rw [Array.getD_eq_getD_getElem?, Array.getElem?_setIfInBounds_self_of_lt h2]
    rfl
  exact ⟨h.sl.put (i := 10) (by omega) (fun u hu => by cases hu), (fun h => by rw [g10] at h; cases h), (fun _ h => by rw [g10] at h; cases h), fun _ => hE⟩

/-- What Diff gives, its room besides. -/
def DiffPostC (ts us : List En) (w : World) (e : Ending) (w' : World) : Prop :=
  ∃ cs, DiffRel ts us cs ∧ (∃ ad cap, e = .returned (.agg #[.slice ad cs.length cap]) ∧ CL w.heap.size w' ad cs ∧ cs.length ≤ cap) ∧ Below w.heap.size w w'

set_option maxRecDepth 100000 in
set_option maxHeartbeats 40000000 in
theorem implDiffC_any (a b : Option Addr) (ca cb : Nat) (ts us : List En) (w : World) (hts : ES w a ts) (hus : ES w b us) (hn : ts.length ≤ 1048576) (hnb : us.length ≤ 1048576) (hca : ts.length ≤ ca) (hcb : us.length ≤ cb) (hz : ∀ e ∈ ts, e.path.size ≤ 1048576) (hzb : ∀ e ∈ us, e.path.size ≤ 1048576) :
    Calls Try.prog 6 #[.agg #[.slice a ts.length ca], .agg #[.slice b us.length cb]] w fun e w' => DiffPostC ts us w e w' := by
  have hal : Below w.heap.size w (((w.alloc (.cells #[.slice a ts.length ca] 25)).alloc (.cells #[.slice b us.length cb] 25)).alloc (.cells #[.slice none 0 0] 30)) := (((Below.refl _ _).alloc (Nat.le_refl _) _).alloc (by simp) _).alloc (by simp; omega) _
  have m0 : (((w.alloc (.cells #[.slice a ts.length ca] 25)).alloc (.cells #[.slice b us.length cb] 25)).alloc (.cells #[.slice none 0 0] 30)).cell? ⟨w.heap.size, 0, none⟩ = some (.slice a ts.length ca) := by simp [go_sem]
  have m1 : (((w.alloc (.cells #[.slice a ts.length ca] 25)).alloc (.cells #[.slice b us.length cb] 25)).alloc (.cells #[.slice none 0 0] 30)).cell? ⟨w.heap.size + 1, 0, none⟩ = some (.slice b us.length cb) := by simp [go_sem]
  have k0 : (((w.alloc (.cells #[.slice a ts.length ca] 25)).alloc (.cells #[.slice b us.length cb] 25)).alloc (.cells #[.slice none 0 0] 30)).cell? ⟨w.heap.size + 1 + 1, 0, none⟩ = some (.slice none 0 0) := by simp [go_sem]
  have kf : (((w.alloc (.cells #[.slice a ts.length ca] 25)).alloc (.cells #[.slice b us.length cb] 25)).alloc (.cells #[.slice none 0 0] 30)).frozen? ⟨w.heap.size + 1 + 1, 0, none⟩ = false := by simp [go_sem]
  have os0 : w.heap.size + 1 + 1 < (((w.alloc (.cells #[.slice a ts.length ca] 25)).alloc (.cells #[.slice b us.length cb] 25)).alloc (.cells #[.slice none 0 0] 30)).heap.size := by simp [go_sem]
  refine (callsIn_wide (n := 5)).1 ?_
  refine callsIn_of_wp_marks Try.func6 rfl trivial ?_ rfl
  simp only [Try.ntmps6, List.size_toArray, List.length_cons, List.length_nil, Nat.reduceAdd, Nat.reduceSub, Array.replicate_succ, Array.replicate_zero, List.push_toArray, List.append_toArray, List.nil_append, List.cons_append]
  gi_wp2_with fail
  refine ⟨trivial, ?_⟩
  refine (callsIn_wide.2 (implTree_any a ca ts _ (hts.below hal) hn hz)).mono ?_
  rintro e w1 ⟨vb, rfl, hvb, hb1⟩
  replace m0 := cell_later hb1 m0
  replace m1 := cell_later hb1 m1
  replace k0 := cell_later hb1 k0
  replace kf : w1.frozen? ⟨w.heap.size + 1 + 1, 0, none⟩ = false := (hb1.frozen (p := ⟨w.heap.size + 1 + 1, 0, none⟩) os0).trans kf
  have os1 : w.heap.size + 1 + 1 < w1.heap.size := Nat.lt_of_lt_of_le os0 hb1.size
  have hbw := hal.trans (hb1.mono hal.size)
  have HV : Keep (vb = true ↔ ValidTs ts) := ⟨hvb⟩
  clear hvb hb1 hal os0
  obtain ⟨ta, hta⟩ : ∃ x, x = w.heap.size := ⟨_, rfl⟩
  obtain ⟨tb, htb⟩ : ∃ x, x = w.heap.size + 1 := ⟨_, rfl⟩
  obtain ⟨g, hg⟩ : ∃ x, x = w.heap.size + 1 + 1 := ⟨_, rfl⟩
  rw [← hg] at k0 kf ⊢
  rw [← htb] at m1 ⊢
  rw [← hta] at m0 ⊢
  have HS : Keep (ta = w.heap.size ∧ tb = ta + 1 ∧ g = tb + 1 ∧ g < w1.heap.size) := ⟨by omega⟩
  clear hta htb hg os1
  have HNO : Keep (∀ X : World, Below w.heap.size w X → ¬ (ValidTs ts ∧ ValidTs us) → X.cell? ⟨g, 0, none⟩ = some (.slice none 0 0) → DiffPostC ts us w (.returned (.agg #[.slice none ([] : List Ch).length 0])) (X.setCell ⟨g, 0, none⟩ (.slice none 0 0))) := ⟨fun X hX hnv hc => ⟨[], .inr ⟨hnv, rfl⟩, ⟨none, 0, rfl, CL.nil _ _ _, Nat.le_refl _⟩, hX.setCell (p := ⟨g, 0, none⟩) (by have := HS.out; show _ ≤ g; omega) _⟩⟩
  cases vb with
  | false =>
    have hnv : ¬ (ValidTs ts ∧ ValidTs us) := fun h => by have := HV.out.2 h.1; cases this
    gi_wp2
    refine ⟨trivial, ?_⟩
    gi_wp2
    refine ⟨.agg #[.slice none ([] : List Ch).length 0], ?_, HNO.out _ hbw hnv k0⟩
    simp [results, Try.f6, go_sem, k0]
  | true =>
    have HVT : Keep (ValidTs ts) := ⟨HV.out.1 rfl⟩
    gi_wp2_with fail
    refine ⟨trivial, ?_⟩
    refine (callsIn_wide.2 (implTree_any b cb us _ (hus.below hbw) hnb hzb)).mono ?_
    rintro e w2 ⟨vb, rfl, hvb, hb2⟩
    have HV2 : Keep (vb = true ↔ ValidTs us) := ⟨hvb⟩
    replace m0 := cell_later hb2 m0
    replace m1 := cell_later hb2 m1
    replace k0 := cell_later hb2 k0
    replace kf : w2.frozen? ⟨g, 0, none⟩ = false := (hb2.frozen (p := ⟨g, 0, none⟩) HS.out.2.2.2).trans kf
    have HS2 : Keep (ta = w.heap.size ∧ tb = ta + 1 ∧ g = tb + 1 ∧ g < w2.heap.size) := ⟨by have := HS.out; have := hb2.size; omega⟩
    replace hbw := hbw.trans (hb2.mono hbw.size)
    clear hvb hb2 HS HV
    cases vb with
    | false =>
      have hnv : ¬ (ValidTs ts ∧ ValidTs us) := fun h => by have := HV2.out.2 h.2; cases this
      gi_wp2
      refine ⟨.agg #[.slice none ([] : List Ch).length 0], ?_, HNO.out _ hbw hnv k0⟩
      simp [results, Try.f6, go_sem, k0]
    | true =>
      have HVU : Keep (ValidTs us) := ⟨HV2.out.1 rfl⟩
      have hal2 : Below w2.heap.size w2 (w2.alloc (.cells #[.slice none 0 0] 30)) := (Below.refl _ _).alloc (Nat.le_refl _) _
      replace m0 := cell_later hal2 m0
      replace m1 := cell_later hal2 m1
      have ob0 : (((w2.alloc (.cells #[.slice none 0 0] 30)).alloc (.cells #[.slice a ts.length ca] 23)).alloc (.cells #[.slice b us.length cb] 23)).cell? ⟨w2.heap.size, 0, none⟩ = some (.slice none 0 0) := by simp [go_sem]
      have of0 : (((w2.alloc (.cells #[.slice none 0 0] 30)).alloc (.cells #[.slice a ts.length ca] 23)).alloc (.cells #[.slice b us.length cb] 23)).frozen? ⟨w2.heap.size, 0, none⟩ = false := by simp [go_sem]
      have ma : (((w2.alloc (.cells #[.slice none 0 0] 30)).alloc (.cells #[.slice a ts.length ca] 23)).alloc (.cells #[.slice b us.length cb] 23)).cell? ⟨w2.heap.size + 1, 0, none⟩ = some (.slice a ts.length ca) := by simp [go_sem]
      have mb : (((w2.alloc (.cells #[.slice none 0 0] 30)).alloc (.cells #[.slice a ts.length ca] 23)).alloc (.cells #[.slice b us.length cb] 23)).cell? ⟨w2.heap.size + 1 + 1, 0, none⟩ = some (.slice b us.length cb) := by simp [go_sem]
      have wsz : (((w2.alloc (.cells #[.slice none 0 0] 30)).alloc (.cells #[.slice a ts.length ca] 23)).alloc (.cells #[.slice b us.length cb] 23)).heap.size = w2.heap.size + 3 := by simp [go_sem]
      have hb3 : Below w2.heap.size w2 (((w2.alloc (.cells #[.slice none 0 0] 30)).alloc (.cells #[.slice a ts.length ca] 23)).alloc (.cells #[.slice b us.length cb] 23)) := (((Below.refl _ _).alloc (Nat.le_refl _) _).alloc (by simp) _).alloc (by simp; omega) _
      gi_wp2_with (refine ⟨trivial, ?_⟩; gi_at_call 30; refine (callsIn_wide.2 (sideE_any a b ts.length us.length ca cb _)).mono ?_; rintro e w' ⟨rfl, rfl⟩)
      generalize hwl : (((w2.alloc (.cells #[.slice none 0 0] 30)).alloc (.cells #[.slice a ts.length ca] 23)).alloc (.cells #[.slice b us.length cb] 23)) = wl at *
      clear hwl
      have hbl := hbw.trans (hb3.mono hbw.size)
      have kl := cell_later hb3 k0
      have kfl : wl.frozen? ⟨g, 0, none⟩ = false := (hb3.frozen (p := ⟨g, 0, none⟩) HS2.out.2.2.2).trans kf
      obtain ⟨ob, hob⟩ : ∃ ob, ob = w2.heap.size := ⟨_, rfl⟩
      rw [← hob] at ob0 of0 ma mb wsz HS2 ⊢
      have HL : Keep (ta = w.heap.size ∧ tb = ta + 1 ∧ g = tb + 1 ∧ g < ob ∧ wl.heap.size = ob + 3) := ⟨by have := HS2.out; omega⟩
      have hI0 : ∀ o1 o2, DfI wl ob [] ((wl.alloc o1).alloc o2) := fun o1 o2 => by
        have hb : Below wl.heap.size wl ((wl.alloc o1).alloc o2) := ((Below.refl _ _).alloc (Nat.le_refl _) _).alloc (by simp) _
        exact ⟨_, _, by simp, hb, OutCh.start (cell_later hb ob0) ((hb.frozen (p := ⟨ob, 0, none⟩) (by show ob < _; omega)).trans of0) (by simp; omega)⟩
      clear hb3 hob k0 kf m0 m1 HS2 HV2 hbw hal2
      refine range_iter (sideE_iter (ob + 1) (ob + 1 + 1) a b ca cb ts us hca hcb hn hnb) (enters_of Try.func56 (by kernel_rfl) rfl) (n := 5) (by omega) rfl (fun x => rfl) (DfI wl ob) (fun _ _ => False)
        (fun pre W ⟨Wz, v, hz1, hz2, hst⟩ => ⟨hst.keep (cell_later hz2 ma) (by omega) (by omega), hst.keep (cell_later hz2 mb) (by omega) (by omega), hts.below (hst.below (hbl.trans (hz2.mono hbl.size)) (by have := HL.out; omega)), hus.below (hst.below (hbl.trans (hz2.mono hbl.size)) (by have := HL.out; omega))⟩)
        (fun pre W W' ⟨Wz, v, hz1, hz2, hst⟩ hb => ⟨Wz, v, hz1, hz2, hst.later hb⟩)
        (fun pre W l o hl ⟨Wz, v, hz1, hz2, hst⟩ => ⟨Wz.putObj l o, v, by simpa using hz1, hz2.grown (row := some l) ⟨rfl, rfl, rfl, by simp, fun k _ hk => World.putObj_heap_other (fun e => hk (by rw [e]))⟩ hz2.size (fun j e => by cases e; omega), hst.put o (by omega) (by omega)⟩)
        (fun _ _ _ _ _ h => h.elim) hI0
        (fun x B a' W => a' = { tmps := #[.agg #[.slice a ts.length ca], .agg #[.slice b us.length cb], .pointer (some ⟨ta, 0, none⟩), .pointer (some ⟨tb, 0, none⟩), .pointer (some ⟨g, 0, none⟩), .pointer (some ⟨ob, 0, none⟩), .pointer (some ⟨B, 0, none⟩), .pointer (some ⟨B + 1, 0, none⟩), .agg #[.slice a ts.length ca], .bool true, .bool false, .bool false, .agg #[.slice b us.length cb], .bool true, .bool false, .bool false, undef, .pointer (some ⟨ta, 0, none⟩), .slice a ts.length ca, .pointer (some ⟨tb, 0, none⟩), .slice b us.length cb, .func (.func 56) #[] #[.pointer (some ⟨ob + 1, 0, none⟩), .pointer (some ⟨ob + 1 + 1, 0, none⟩)], cutEV (x.2.1.getD zeroE), cutEV (x.2.2.getD zeroE), undef, undef, undef, undef, undef, undef, undef, undef, undef, undef, undef, undef], defers := [] } ∧ EBox B (x.2.1.getD zeroE) W ∧ EBox (B + 1) (x.2.2.getD zeroE) W)
        (fun x B a' W l o hl ⟨h1, h2, h3⟩ => ⟨h1, h2.put o (by omega), h3.put o (by omega)⟩) ?assign ?body ?done ?stop
      case assign =>
        intro l x W K hK
        unfold yE cutEV
        gi_wp2
        exact hK _ _ (((Below.refl _ _).alloc (Nat.le_refl _) _).alloc (by simp) _) ⟨rfl, ⟨by simp [go_sem], by simp [go_sem], by simp [go_sem]⟩, ⟨by simp [go_sem], by simp [go_sem], by simp [go_sem]⟩⟩
      case body =>
        rintro l pre x a' B W ⟨Wz, v, hz1, hz2, hst⟩ ⟨r, hr⟩ hB1 hB2 ⟨rfl, hx, hy⟩
        have hul : (outsE pre).length ≤ 1048576 := by
          have h1 := outsE_len pre
          have h2 := congrArg List.length hr
          have h3 := mrg_len En.path En.path (ts.length + us.length) ts us
          have h4 := HVT.out.1
          have h5 := HVU.out.1
          simp only [List.length_append] at h2
          unfold mrgE at h2
          omega
        obtain ⟨q, hq1, hq2⟩ : ∃ q, x.2.1 = fnd En.path ts q ∧ x.2.2 = fnd En.path us q := by
          have hm : x ∈ mrgE ts us := by rw [hr]; simp
          rw [mrgE_is HVT.out HVU.out] at hm
          obtain ⟨q, _, rfl⟩ := List.mem_map.1 hm
          exact ⟨q, rfl, rfl⟩
        have hzx := getD_ok HVT.out hz q
        have hzy := getD_ok HVU.out hzb q
        rw [← hq1] at hzx
        rw [← hq2] at hzy
        clear hq1 hq2 q
        have HT : Keep (outsE (pre ++ [x]) = outsE pre ++ outC (x.2.1.getD zeroE) (x.2.2.getD zeroE)) := ⟨outsE_snoc pre x⟩
        generalize x.2.1.getD zeroE = X at *
        generalize x.2.2.getD zeroE = Y at *
        have hor : (orP X Y).size ≤ 1048576 := by unfold orP; split; exact hzy.1; exact hzx.1
        have HCh : Keep (∀ (k : Nat) (z : Later W), CallsIn (Fence.wide.inRound l) k Try.prog 31 #[.pointer (some ⟨ob, 0, none⟩), .string (orP X Y), .agg #[.bool (fileE X).there, .string (fileE X).text, .bool (fileE X).runs], .agg #[.bool (fileE Y).there, .string (fileE Y).text, .bool (fileE Y).runs]] z.world fun e w' => e = .returned (.tuple #[]) ∧ ∃ v', OutCh ob Wz v' (outsE pre ++ outC X Y) w') := ⟨fun k z => CallsIn.inRound l (callsIn_wide.2 (chg_out ob Wz v (outsE pre) X Y z.world (hst.later z.kept) hul hor hzx.2 hzy.2))⟩
        have HFX : Keep (∀ (k : Nat) (z : Later W), CallsIn (Fence.wide.inRound l) k Try.prog 33 #[.agg #[.string X.path, .string X.text, .bool X.runs]] z.world fun e w' => e = .returned (.agg #[.bool (fileE X).there, .string (fileE X).text, .bool (fileE X).runs]) ∧ ∃ y : Later W, w' = y.world ∧ Below z.world.heap.size z.world y.world) := ⟨fun k z => CallsIn.inRound l (callsIn_wide.2 ((fileE_any X z.world).mono (fun e w' h => ⟨h.1, ⟨w', z.kept.trans (h.2.mono z.kept.size)⟩, rfl, h.2⟩)))⟩
        have HFY : Keep (∀ (k : Nat) (z : Later W), CallsIn (Fence.wide.inRound l) k Try.prog 33 #[.agg #[.string Y.path, .string Y.text, .bool Y.runs]] z.world fun e w' => e = .returned (.agg #[.bool (fileE Y).there, .string (fileE Y).text, .bool (fileE Y).runs]) ∧ ∃ y : Later W, w' = y.world ∧ Below z.world.heap.size z.world y.world) := ⟨fun k z => CallsIn.inRound l (callsIn_wide.2 ((fileE_any Y z.world).mono (fun e w' h => ⟨h.1, ⟨w', z.kept.trans (h.2.mono z.kept.size)⟩, rfl, h.2⟩)))⟩
        have HOr : Keep (∀ (k : Nat) (z : Later W) (b : Nat), z.world.cell? ⟨b, 0, none⟩ = some (.string X.path) → z.world.cell? ⟨b, 1, none⟩ = some (.string Y.path) → CallsIn (Fence.wide.inRound l) k Try.prog 32 #[.slice (some ⟨b, 0, none⟩) 2 2] z.world fun e w' => e = .returned (.string (orP X Y)) ∧ ∃ y : Later W, w' = y.world ∧ Below z.world.heap.size z.world y.world) := ⟨fun k z b h1 h2 => CallsIn.inRound l (callsIn_wide.2 ((orS_any b 0 X.path Y.path _ h1 h2).mono (fun e w' h => ⟨h.1, z, h.2, Below.refl _ _⟩)))⟩
        have HE : Keep (∀ v' w', OutCh ob Wz v' (outsE pre ++ outC X Y) w' → TwoB wl.heap.size W w' ∧ DfI wl ob (pre ++ [x]) w') := ⟨fun v' w' h => ⟨⟨(h.grown.block _ (by omega) (fun e => by have := HL.out; cases e; omega)).trans (hst.grown.block _ (by omega) (fun e => by have := HL.out; cases e; omega)).symm, (h.grown.block _ (by omega) (fun e => by have := HL.out; cases e; omega)).trans (hst.grown.block _ (by omega) (fun e => by have := HL.out; cases e; omega)).symm⟩, Wz, v', hz1, hz2, by rw [HT.out]; exact h⟩⟩
        have xz0 := fun z : Later W => (hx.later z.kept).c0
        have xz1 := fun z : Later W => (hx.later z.kept).c1
        have xz2 := fun z : Later W => (hx.later z.kept).c2
        have yz0 := fun z : Later W => (hy.later z.kept).c0
        have yz1 := fun z : Later W => (hy.later z.kept).c1
        have yz2 := fun z : Later W => (hy.later z.kept).c2
        clear hx hy hst hr hul hzx hzy hor HT hI0 ma mb of0 ob0 kl kfl hbl hts hus hz hzb HNO
        gi_wp2
        refine wpIn_region_inv (by kernel_rfl) (by kernel_rfl) (DfV W B ob X Y (fun w' => ∃ v', OutCh ob Wz v' (outsE pre ++ outC X Y) w')) ?_ ?_ ?_
        · refine ⟨⟨rfl, fun k v hk => ?_, fun j v _ hL => ?_⟩, fun _ => ⟨⟨W.drew, (Below.refl _ _).drew⟩, rfl⟩, fun h => ?_, fun h => ?_⟩
          · match k, hk with
            | 5, hk => cases hk; exact ⟨by omega, rfl⟩
            | 6, hk => cases hk; exact ⟨by omega, rfl⟩
            | 7, hk => cases hk; exact ⟨by omega, rfl⟩
          · exfalso; rw [getD_repl] at hL; cases hL
          · exfalso; rw [getD_repl] at h; cases h
          · exfalso; rw [getD_repl] at h; cases h
        · intro L a2 w2 hinv hall
          obtain ⟨v', h'⟩ := hinv.fin (hall 10 (by decide))
          exact HE.out _ _ h'
        · intro L a2 w2 i o hinv hcl hL ho hdep
          have hlt : i < 11 := (Array.getElem?_eq_some_iff.1 ho).1
          have h10 : i ≠ 10 → L.getD 10 false = false := fun hne => by
            cases hb : L.getD 10 false with
            | false => rfl
            | true =>
              exfalso
              have d5 := hcl 10 _ rfl hb ⟨5, .data⟩ (by simp) rfl
              have d7 := hcl 10 _ rfl hb ⟨7, .data⟩ (by simp) rfl
              have d9 := hcl 10 _ rfl hb ⟨9, .data⟩ (by simp) rfl
              have d4 := hcl 5 _ rfl d5 ⟨4, .data⟩ (by simp) rfl
              have d6 := hcl 7 _ rfl d7 ⟨6, .data⟩ (by simp) rfl
              have d8 := hcl 9 _ rfl d9 ⟨8, .data⟩ (by simp) rfl
              have d1 := hcl 4 _ rfl d4 ⟨1, .data⟩ (by simp) rfl
              have d3 := hcl 4 _ rfl d4 ⟨3, .data⟩ (by simp) rfl
              have d0 := hcl 1 _ rfl d1 ⟨0, .data⟩ (by simp) rfl
              have d2 := hcl 3 _ rfl d3 ⟨2, .data⟩ (by simp) rfl
              have hf := getD_ft hL
              match i, hlt, hne, hf with
              | 0, _, _, hf => rw [d0] at hf; cases hf
              | 1, _, _, hf => rw [d1] at hf; cases hf
              | 2, _, _, hf => rw [d2] at hf; cases hf
              | 3, _, _, hf => rw [d3] at hf; cases hf
              | 4, _, _, hf => rw [d4] at hf; cases hf
              | 5, _, _, hf => rw [d5] at hf; cases hf
              | 6, _, _, hf => rw [d6] at hf; cases hf
              | 7, _, _, hf => rw [d7] at hf; cases hf
              | 8, _, _, hf => rw [d8] at hf; cases hf
              | 9, _, _, hf => rw [d9] at hf; cases hf
              | 10, _, hne, _ => exact hne rfl
          have e5 := evalD (hinv.sl.bs 5 _ rfl).2
          have e6 := evalD (hinv.sl.bs 6 _ rfl).2
          have e7 := evalD (hinv.sl.bs 7 _ rfl).2
          unfold wpOpIn
          rw [ho]
          clear hcl
          match i, hlt, hL, ho, hdep, h10 with
          | 0, _, hL, ho, hdep, h10 =>
            injection ho with ho; subst ho
            dsimp only
            rw [if_pos (by rfl)]
            refine ⟨fun f _ => trivial, ?_⟩
            obtain ⟨z, rfl⟩ := hinv.wd (h10 (by omega))
            go_simp
            exact hinv.step (i := 0) (z' := z) (by omega) (by omega) (h10 (by omega)) rfl (Below.refl _ _)
          | 1, _, hL, ho, hdep, h10 =>
            injection ho with ho; subst ho
            dsimp only
            rw [if_pos (by rfl)]
            refine ⟨fun f _ => trivial, ?_⟩
            obtain ⟨z, rfl⟩ := hinv.wd (h10 (by omega))
            have e24 := evalD (hinv.sl.sl 0 _ rfl (hdep ⟨0, .data⟩ (by simp) rfl))
            go_simp
            exact hinv.step (i := 1) (z' := z) (by omega) (by omega) (h10 (by omega)) rfl (Below.refl _ _)
          | 2, _, hL, ho, hdep, h10 =>
            injection ho with ho; subst ho
            dsimp only
            rw [if_pos (by rfl)]
            refine ⟨fun f _ => trivial, ?_⟩
            obtain ⟨z, rfl⟩ := hinv.wd (h10 (by omega))
            go_simp
            exact hinv.step (i := 2) (z' := z) (by omega) (by omega) (h10 (by omega)) rfl (Below.refl _ _)
          | 3, _, hL, ho, hdep, h10 =>
            injection ho with ho; subst ho
            dsimp only
            rw [if_pos (by rfl)]
            refine ⟨fun f _ => trivial, ?_⟩
            obtain ⟨z, rfl⟩ := hinv.wd (h10 (by omega))
            have e26 := evalD (hinv.sl.sl 2 _ rfl (hdep ⟨2, .data⟩ (by simp) rfl))
            go_simp
            exact hinv.step (i := 3) (z' := z) (by omega) (by omega) (h10 (by omega)) rfl (Below.refl _ _)
          | 4, _, hL, ho, hdep, h10 =>
            injection ho with ho; subst ho
            dsimp only
            rw [if_pos (by rfl)]
            refine ⟨fun f _ => trivial, ?_⟩
            obtain ⟨z, rfl⟩ := hinv.wd (h10 (by omega))
            have e25 := evalD (hinv.sl.sl 1 _ rfl (hdep ⟨1, .data⟩ (by simp) rfl))
            have e27 := evalD (hinv.sl.sl 3 _ rfl (hdep ⟨3, .data⟩ (by simp) rfl))
            go_simp
            exact hinv.build (h10 (by omega))
          | 5, _, hL, ho, hdep, h10 =>
            injection ho with ho; subst ho
            dsimp only
            rw [if_pos (by rfl)]
            refine ⟨fun f _ => trivial, ?_⟩
            obtain ⟨z, rfl⟩ := hinv.wd (h10 (by omega))
            obtain ⟨b5, h5, c50, c51⟩ := hinv.sc (hdep ⟨4, .data⟩ (by simp) rfl) (h10 (by omega))
            have e28 := evalD h5
            go_simp
            refine CallsIn.mono (HOr.out _ z b5 c50 c51) ?_
            rintro e w' ⟨rfl, y, rfl, hb'⟩
            exact hinv.step (i := 5) (z' := y) (by omega) (by omega) (h10 (by omega)) rfl hb'
          | 6, _, hL, ho, hdep, h10 =>
            injection ho with ho; subst ho
            dsimp only
            rw [if_pos (by rfl)]
            refine ⟨fun f _ => trivial, ?_⟩
            obtain ⟨z, rfl⟩ := hinv.wd (h10 (by omega))
            go_simp
            exact hinv.step (i := 6) (z' := z) (by omega) (by omega) (h10 (by omega)) rfl (Below.refl _ _)
          | 7, _, hL, ho, hdep, h10 =>
            injection ho with ho; subst ho
            dsimp only
            rw [if_pos (by rfl)]
            refine ⟨fun f _ => trivial, ?_⟩
            obtain ⟨z, rfl⟩ := hinv.wd (h10 (by omega))
            have e30 := evalD (hinv.sl.sl 6 _ rfl (hdep ⟨6, .data⟩ (by simp) rfl))
            go_simp
            refine CallsIn.mono (HFX.out _ z) ?_
            rintro e w' ⟨rfl, y, rfl, hb'⟩
            exact hinv.step (i := 7) (z' := y) (by omega) (by omega) (h10 (by omega)) rfl hb'
          | 8, _, hL, ho, hdep, h10 =>
            injection ho with ho; subst ho
            dsimp only
            rw [if_pos (by rfl)]
            refine ⟨fun f _ => trivial, ?_⟩
            obtain ⟨z, rfl⟩ := hinv.wd (h10 (by omega))
            go_simp
            exact hinv.step (i := 8) (z' := z) (by omega) (by omega) (h10 (by omega)) rfl (Below.refl _ _)
          | 9, _, hL, ho, hdep, h10 =>
            injection ho with ho; subst ho
            dsimp only
            rw [if_pos (by rfl)]
            refine ⟨fun f _ => trivial, ?_⟩
            obtain ⟨z, rfl⟩ := hinv.wd (h10 (by omega))
            have e32 := evalD (hinv.sl.sl 8 _ rfl (hdep ⟨8, .data⟩ (by simp) rfl))
            go_simp
            refine CallsIn.mono (HFY.out _ z) ?_
            rintro e w' ⟨rfl, y, rfl, hb'⟩
            exact hinv.step (i := 9) (z' := y) (by omega) (by omega) (h10 (by omega)) rfl hb'
          | 10, _, hL, ho, hdep, h10 =>
            injection ho with ho; subst ho
            dsimp only
            rw [if_pos (by rfl)]
            refine ⟨fun f _ => trivial, ?_⟩
            have e29 := evalD (hinv.sl.sl 5 _ rfl (hdep ⟨5, .data⟩ (by simp) rfl))
            have e31 := evalD (hinv.sl.sl 7 _ rfl (hdep ⟨7, .data⟩ (by simp) rfl))
            have e33 := evalD (hinv.sl.sl 9 _ rfl (hdep ⟨9, .data⟩ (by simp) rfl))
            obtain ⟨z, rfl⟩ := hinv.wd (getD_ft hL)
            go_simp
            refine CallsIn.mono (HCh.out _ z) ?_
            rintro e w' ⟨rfl, v', hst'⟩
            exact hinv.last ⟨v', hst'⟩ hL
      case done =>
        rintro W ⟨Wz, v, hz1, hz2, hst⟩ hK
        rw [outs_diff HVT.out HVU.out] at hst
        have kW := hst.keep (cell_later hz2 kl) (by have := HL.out; omega) (by have := HL.out; omega)
        have kfW : W.frozen? ⟨g, 0, none⟩ = false := frozen_of (hst.grown.block g (by have := HL.out; omega) (fun e => by have := HL.out; cases e; omega)) ((hz2.frozen (p := ⟨g, 0, none⟩) (by have := HL.out; show g < _; omega)).trans kfl)
        have oW := hst.cell
        have hbW := hst.below (hbl.trans (hz2.mono hbl.size)) (show w.heap.size ≤ ob by have := HL.out; omega)
        obtain ⟨ad, cap, rfl⟩ := owns_slice hst.row
        have HRM : Keep ((diffL ts us).length ≤ cap) := ⟨row_roomO hst.row⟩
        have hcl := cl_of_row hst.row
        have HGW : Keep (g < W.heap.size) := ⟨World.block_lt_of_cell? W ⟨g, 0, none⟩ kW⟩
        have HZ : Keep (w.heap.size ≤ g ∧ g < wl.heap.size ∧ Wz.heap.size = wl.heap.size + 2) := ⟨by have := HL.out; omega⟩
        clear hst hz2 hI0 hts hus
        gi_wp2
        have hcl2 := hcl.grown (row := some g) (grown_set0 W g 0 (.slice ad (diffL ts us).length cap)) (fun j _ hj _ e => by have := HZ.out; cases e; omega)
        have hbW2 := hbW.setCell (p := ⟨g, 0, none⟩) HZ.out.1 (.slice ad (diffL ts us).length cap)
        have hK2 : (W.setCell ⟨g, 0, none⟩ (.slice ad (diffL ts us).length cap)).heap[wl.heap.size]? = some (.deferred (some [])) := (Below.heap_setCell _ _ _ _ (fun e => by have := HZ.out; have e2 : wl.heap.size = g := e; omega)).trans hK
        have kW2 : (W.setCell ⟨g, 0, none⟩ (.slice ad (diffL ts us).length cap)).cell? ⟨g, 0, none⟩ = some (.slice ad (diffL ts us).length cap) := World.cell?_setCell_same _ _ _ kW
        generalize W.setCell ⟨g, 0, none⟩ (.slice ad (diffL ts us).length cap) = W3 at *
        refine ⟨by simp, .inl ⟨_, _, rfl, run_takeDeferred hK2, ?_⟩⟩
        have hgp : W3.grownBy (W3.putObj wl.heap.size (.deferred none)) (some wl.heap.size) := ⟨rfl, rfl, rfl, by simp, fun k _ hk => World.putObj_heap_other (fun e => hk (by rw [e]))⟩
        have kW3 : (W3.putObj wl.heap.size (.deferred none)).cell? ⟨g, 0, none⟩ = some (.slice ad (diffL ts us).length cap) := (World.cell?_of_block (World.putObj_heap_other (fun e => by have := HZ.out; have e2 : g = wl.heap.size := e; omega))).trans kW2
        refine ⟨.agg #[.slice ad (diffL ts us).length cap], ?_, diffL ts us, .inl ⟨HVT.out, HVU.out, rfl⟩, ⟨ad, cap, rfl, (hcl2.grown hgp (fun j _ hj _ e => by have := HZ.out; cases e; omega)).mono (by have := HZ.out; omega), HRM.out⟩, hbW2.grown hgp hbW2.size (fun j e => by have := HZ.out; cases e; omega)⟩
        simp [results, Try.f6, go_sem, kW3]
      case stop => exact fun _ _ _ h => h.elim
theorem implDiff_any (a b : Option Addr) (ca cb : Nat) (ts us : List En) (w : World) (hts : ES w a ts) (hus : ES w b us) (hn : ts.length ≤ 1048576) (hnb : us.length ≤ 1048576) (hca : ts.length ≤ ca) (hcb : us.length ≤ cb) (hz : ∀ e ∈ ts, e.path.size ≤ 1048576) (hzb : ∀ e ∈ us, e.path.size ≤ 1048576) :
    Calls Try.prog 6 #[.agg #[.slice a ts.length ca], .agg #[.slice b us.length cb]] w fun e w' => DiffPost ts us w e w' :=
  (implDiffC_any a b ca cb ts us w hts hus hn hnb hca hcb hz hzb).mono (fun _ _ ⟨cs, h1, ⟨ad, cap, h2, h3, _⟩, h4⟩ => ⟨cs, h1, ⟨ad, cap, h2, h3⟩, h4⟩)
end Go.Proofs.Ytjlflmbifeocbaa

namespace Go.Proofs.Ytjlflmbifeocbaa
open Go.RowKit

set_option maxRecDepth 20000 in
set_option maxHeartbeats 1000000 in
theorem l6FileOk_any (f : Fl) (w : World) :
    Calls Try.prog 67 #[.agg #[.bool f.there, .string f.text, .bool f.runs]] w fun e w' => e = .returned (.bool (flOk f)) ∧ Below w.heap.size w w' := by
  have hal : Below w.heap.size w (w.alloc (.cells #[.bool f.there, .string f.text, .bool f.runs] 54)) := (Below.refl _ _).alloc (Nat.le_refl _) _
  by_cases hs : (f.text.size : Int) ≤ 1500
  · have hs' : f.text.size ≤ 1500 := by omega
    cases ht : f.there with
    | true =>
      rw [ht] at hal
      go_enter Try.func67, Try.ntmps67
      go_wp2
      go_ret
      exact ⟨by simp [flOk, ht, hs'], hal⟩
    | false =>
      rw [ht] at hal
      cases he : f.text.toList.isEmpty with
      | true =>
        have he' : f.text.toList = [] := by simpa using he
        go_enter Try.func67, Try.ntmps67
        go_wp2
        go_ret
        exact ⟨by simp [flOk, ht, hs', he'], hal⟩
      | false =>
        have he' : ¬ f.text.toList = [] := by simpa using he
        go_enter Try.func67, Try.ntmps67
        go_wp2
        go_ret
        exact ⟨by simp [flOk, ht, hs', he'], hal⟩
  · have hs' : ¬ f.text.size ≤ 1500 := by omega
    go_enter Try.func67, Try.ntmps67
    go_wp2
    go_ret
    exact ⟨by simp [flOk, hs'], hal⟩

set_option maxRecDepth 20000 in
set_option maxHeartbeats 4000000 in
theorem isChange_any (c : Ch) (w : World) (hs : c.path.size ≤ 1099511627776) :
    Calls Try.prog 42 #[chV c] w fun e w' => e = .returned (.bool (chOk c)) ∧ Below w.heap.size w w' := by
  unfold chV
  have hal : Below w.heap.size w (w.alloc (.cells #[.string c.path, .bool c.old.there, .string c.old.text, .bool c.old.runs, .bool c.new.there, .string c.new.text, .bool c.new.runs] 68)) := (Below.refl _ _).alloc (Nat.le_refl _) _
  have hc : ChAt (w.alloc (.cells #[.string c.path, .bool c.old.there, .string c.old.text, .bool c.old.runs, .bool c.new.there, .string c.new.text, .bool c.new.runs] 68)) w.heap.size 0 c := by simp [ChAt]
  go_enter Try.func42, Try.ntmps42
  go_wp2_with fail
  refine (implPath_any c.path hs _).mono ?_
  rintro e w1 ⟨rfl, hb1⟩
  have hbw := hal.trans (hb1.mono hal.size)
  replace hc := hc.later hb1
  obtain ⟨d0, d1, d2, d3, d4, d5, d6⟩ := hc
  have HC : Keep (ChAt w1 w.heap.size 0 c) := ⟨⟨d0, d1, d2, d3, d4, d5, d6⟩⟩
  simp only [Nat.zero_add] at d0 d1 d2 d3 d4 d5 d6
  cases hp : pathOk pathB c.path with
  | false =>
    go_wp2
    go_ret
    exact ⟨by simp [chOk, hp], hbw⟩
  | true =>
    go_wp2_with fail
    refine (isFile_any c.old _).mono ?_
    rintro e w2 ⟨rfl, hb2⟩
    have hbw2 := hbw.trans (hb2.mono hbw.size)
    clear d0 d1 d2 d3 d4 d5 d6
    obtain ⟨d0, d1, d2, d3, d4, d5, d6⟩ := HC.out.later hb2
    have HC2 : Keep (ChAt w2 w.heap.size 0 c) := ⟨⟨d0, d1, d2, d3, d4, d5, d6⟩⟩
    simp only [Nat.zero_add] at d0 d1 d2 d3 d4 d5 d6
    cases ho : flOk c.old with
    | false =>
      go_wp2
      go_ret
      exact ⟨by simp [chOk, hp, ho], hbw2⟩
    | true =>
      go_wp2_with fail
      refine (isFile_any c.new _).mono ?_
      rintro e w3 ⟨rfl, hb3⟩
      have hbw3 := hbw2.trans (hb3.mono hbw2.size)
      clear d0 d1 d2 d3 d4 d5 d6
      obtain ⟨d0, d1, d2, d3, d4, d5, d6⟩ := HC2.out.later hb3
      simp only [Nat.zero_add] at d0 d1 d2 d3 d4 d5 d6
      cases hnw : flOk c.new with
      | false =>
        go_wp2
        go_ret
        exact ⟨by simp [chOk, hp, ho, hnw], hbw3⟩
      | true =>
        by_cases h1 : c.old.there = c.new.there
        · by_cases h2 : c.old.text.toList = c.new.text.toList
          · by_cases h3 : c.old.runs = c.new.runs
            · go_wp2
              go_ret
              exact ⟨by simp [chOk, hp, ho, hnw, sameF, h1, h2, h3], hbw3⟩
            · go_wp2
              go_ret
              exact ⟨by simp [chOk, hp, ho, hnw, sameF, h1, h2, h3], hbw3⟩
          · go_wp2
            go_ret
            exact ⟨by simp [chOk, hp, ho, hnw, sameF, h1, h2], hbw3⟩
        · go_wp2
          go_ret
          exact ⟨by simp [chOk, hp, ho, hnw, sameF, h1], hbw3⟩
end Go.Proofs.Ytjlflmbifeocbaa

namespace Go.Proofs.Ytjlflmbifeocbaa
open Go.RowKit

def lastB (cs : List Ch) : Nat → ByteArray
  | 0 => ⟨#[]⟩
  | k + 1 => (cs[k]?.map (·.path)).getD ⟨#[]⟩
theorem lastB_succ {cs : List Ch} {k : Nat} (h : k < cs.length) : lastB cs (k + 1) = cs[k].path := by simp [lastB, List.getElem?_eq_getElem h]

def VpPost (cs : List Ch) (w : World) (e : Ending) (w' : World) : Prop := ∃ vb : Bool, e = .returned (.bool vb) ∧ (vb = true ↔ ValidP cs) ∧ Below w.heap.size w w'
theorem VpPost.no {cs : List Ch} {w w' : World} (h : ¬ ValidP cs) (hb : Below w.heap.size w w') : VpPost cs w (.returned (.bool false)) w' := ⟨false, rfl, ⟨fun e => (by cases e), fun e => absurd e h⟩, hb⟩

/-- What is not behind the last one is not valid there. -/
theorem le_bad {cs : List Ch} {k : Nat} (hk : k < cs.length) (h : Op.bytesLess (lastB cs k).toList cs[k].path.toList = false) : ¬ ValidP cs := by
  intro hv
  obtain ⟨_, h1, h2⟩ := hv.2 k hk
  cases k with
  | zero =>
    simp only [chOk, Bool.and_eq_true] at h1
    have hp := path_pos h1.1.1.1
    have hl : cs[0].path.toList ≠ [] := by
      rw [Lib.toList_data]
      have : cs[0].path.data.toList.length = cs[0].path.size := (Lib.size_eq cs[0].path).symm
      intro e
      rw [e] at this
      simp at this
      omega
    have : Op.bytesLess (lastB cs 0).toList cs[0].path.toList = true := by
      have e0 : (lastB cs 0).toList = [] := by simp [lastB, Lib.toList_data]
      rw [e0]
      cases hx : cs[0].path.toList with
      | nil => exact absurd hx hl
      | cons a l => rfl
    rw [h] at this
    cases this
  | succ j =>
    have := h2 j rfl (by omega)
    rw [lastB_succ (by omega)] at h
    rw [h] at this
    cases this
theorem le_good {cs : List Ch} {k : Nat} (hk : k < cs.length) (h : Op.bytesLess (lastB cs k).toList cs[k].path.toList = true) (hc : chOk cs[k] = true) : POk cs k := by
  refine ⟨hk, hc, fun j hj hjl => ?_⟩
  subst hj
  rw [lastB_succ hjl] at h
  exact h

set_option maxRecDepth 100000 in
set_option maxHeartbeats 4000000 in
theorem implPatch_any (a : Option Addr) (cap : Nat) (cs : List Ch) (w : World) (hcs : CS w a cs) (hn : cs.length ≤ 1048576) (hz : ∀ c ∈ cs, c.path.size ≤ 1048576) :
    Calls Try.prog 14 #[.agg #[.slice a cs.length cap]] w fun e w' => VpPost cs w e w' := by
  have hal : Below w.heap.size w (w.alloc (.cells #[.slice a cs.length cap] 30)) := (Below.refl _ _).alloc (Nat.le_refl _) _
  by_cases h200 : (200 : Int) < cs.length
  · go_enter Try.func14, Try.ntmps14
    go_wp2
    go_ret
    exact VpPost.no (fun h => by have := h.1; omega) hal
  go_enter Try.func14, Try.ntmps14
  go_wp2
  go_loopw [3, 13] (fun l i wr => ∃ k : Nat, l = .string (lastB cs k) ∧ i = .int .i64 k ∧ k ≤ cs.length ∧ Keep (∀ j, j < k → POk cs j) ∧ Below w.heap.size w wr) (fun _ i _ => cs.length - (intOf i).toNat)
  case atStart => exact ⟨0, rfl, rfl, Nat.zero_le _, ⟨fun j hj => by omega⟩, hal⟩
  case round =>
    obtain ⟨k, rfl, rfl, hk, hok, hb⟩ := hrel
    by_cases hlt : k < cs.length
    · have hlt' : (k : Int) < cs.length := by omega
      obtain ⟨b, off, rfl, hc⟩ := (hcs.below hb).at hlt
      obtain ⟨c0, c1, c2, c3, c4, c5, c6⟩ := hc k hlt
      clear hc
      have htot := less_total (lastB cs k).toList cs[k].path.toList
      have HBAD : Keep (Op.bytesLess (lastB cs k).toList cs[k].path.toList = false → ¬ ValidP cs) := ⟨le_bad hlt⟩
      have HGOOD : Keep (Op.bytesLess (lastB cs k).toList cs[k].path.toList = true → chOk cs[k] = true → POk cs k) := ⟨le_good hlt⟩
      have HL : Keep (lastB cs (k + 1) = cs[k].path) := ⟨lastB_succ hlt⟩
      have hals : Below wr.heap.size wr (wr.alloc (.cells #[.string cs[k].path, .bool cs[k].old.there, .string cs[k].old.text, .bool cs[k].old.runs, .bool cs[k].new.there, .string cs[k].new.text, .bool cs[k].new.runs] 68)) := (Below.refl _ _).alloc (Nat.le_refl _) _
      have x0 : (wr.alloc (.cells #[.string cs[k].path, .bool cs[k].old.there, .string cs[k].old.text, .bool cs[k].old.runs, .bool cs[k].new.there, .string cs[k].new.text, .bool cs[k].new.runs] 68)).cell? ⟨wr.heap.size, 0, none⟩ = some (.string cs[k].path) := by simp
      have hbx := hb.trans (hals.mono hb.size)
      have hzk := hz cs[k] (List.getElem_mem hlt)
      cases hl : Op.bytesLess (lastB cs k).toList cs[k].path.toList with
      | false =>
        rw [hl] at htot
        have hle := htot.symm
        simp only [Bool.not_false] at hle
        have hbad := HBAD.out hl
        clear htot
        go_wp2
        go_ret
        exact VpPost.no hbad hbx
      | true =>
        rw [hl] at htot
        have hle := htot.symm
        simp only [Bool.not_true] at hle
        clear htot
        have hcall := isChange_any cs[k] (wr.alloc (.cells #[.string cs[k].path, .bool cs[k].old.there, .string cs[k].old.text, .bool cs[k].old.runs, .bool cs[k].new.there, .string cs[k].new.text, .bool cs[k].new.runs] 68)) (by omega)
        unfold chV at hcall
        go_wp2_with fail
        refine hcall.mono ?_
        rintro e w2 ⟨rfl, hb2⟩
        have hbw2 := hbx.trans (hb2.mono hbx.size)
        have x2 := cell_later hb2 x0
        clear hcall
        cases hck : chOk cs[k] with
        | false =>
          have hbad : ¬ ValidP cs := fun hv => by
            obtain ⟨_, h1, _⟩ := hv.2 k hlt
            rw [hck] at h1
            cases h1
          go_wp2
          go_ret
          exact VpPost.no hbad hbw2
        | true =>
          have HP : Keep (∀ j, j < k + 1 → POk cs j) := ⟨fun j hj => by
            by_cases e : j = k
            · subst e; exact HGOOD.out hl hck
            · exact hok.out j (by omega)⟩
          go_wp2
          go_roundw
          case rel => exact ⟨k + 1, by rw [HL.out], by congr 1, hlt, HP, hbw2⟩
          case measure => simp only [intOf]; omega
    · obtain rfl : k = cs.length := by omega
      go_wp2
      go_ret
      exact ⟨true, rfl, ⟨fun _ => ⟨by omega, hok.out⟩, fun _ => rfl⟩, hb⟩
end Go.Proofs.Ytjlflmbifeocbaa

namespace Go.Proofs.Ytjlflmbifeocbaa
open Go.RowKit

/-- What stands in front of a change is less, or there is nothing. -/
def prevOk (cs : List Ch) (k : Nat) : Prop := ∀ j, j + 1 = k → ∀ (hj : j < cs.length) (hk : k < cs.length), Op.bytesLess cs[j].path.toList cs[k].path.toList = true

theorem same_iff (f g : Fl) : sameF f g = true ↔ f.there = g.there ∧ f.text.toList = g.text.toList ∧ f.runs = g.runs := by
  simp [sameF, and_assoc]

set_option maxRecDepth 100000 in
set_option maxHeartbeats 4000000 in
theorem specPatch_any (a : Option Addr) (cap : Nat) (cs : List Ch) (w : World) (hcs : CS w a cs) (hn : cs.length ≤ 1048576) :
    Calls Try.prog 46 #[.agg #[.slice a cs.length cap]] w fun e w' => VpPost cs w e w' := by
  have hal : Below w.heap.size w (w.alloc (.cells #[.slice a cs.length cap] 30)) := (Below.refl _ _).alloc (Nat.le_refl _) _
  have m0 : (w.alloc (.cells #[.slice a cs.length cap] 30)).cell? ⟨w.heap.size, 0, none⟩ = some (.slice a cs.length cap) := by simp
  by_cases h200 : (200 : Int) < cs.length
  · go_enter Try.func46, Try.ntmps46
    go_wp2
    go_ret
    exact VpPost.no (fun h => by have := h.1; omega) hal
  go_enter Try.func46, Try.ntmps46
  go_wp2
  generalize w.alloc (.cells #[.slice a cs.length cap] 30) = w0 at *
  go_loopw [3] (fun i wr => ∃ k : Nat, i = .int .i64 k ∧ k ≤ cs.length ∧ Keep (∀ j, j < k → POk cs j) ∧ Below w0.heap.size w0 wr) (fun i _ => cs.length - (intOf i).toNat)
  case atStart => exact ⟨0, rfl, Nat.zero_le _, ⟨fun j hj => by omega⟩, Below.refl _ _⟩
  case round =>
    obtain ⟨k, rfl, hk, hok, hb0⟩ := hrel
    have hb := hal.trans (hb0.mono hal.size)
    have mr := cell_later hb0 m0
    by_cases hlt : k < cs.length
    · have hlt' : (k : Int) < cs.length := by omega
      obtain ⟨b, off, rfl, hc⟩ := (hcs.below hb).at hlt
      obtain ⟨c0, c1, c2, c3, c4, c5, c6⟩ := hc k hlt
      have HPREV : Keep (∀ j (hj : j < cs.length), wr.cell? ⟨b, off + j * 7, none⟩ = some (.string cs[j].path)) := ⟨fun j hj => (hc j hj).1⟩
      clear hc
      have hals : Below wr.heap.size wr (wr.alloc (.cells #[.string cs[k].path, .bool cs[k].old.there, .string cs[k].old.text, .bool cs[k].old.runs, .bool cs[k].new.there, .string cs[k].new.text, .bool cs[k].new.runs] 68)) := (Below.refl _ _).alloc (Nat.le_refl _) _
      have hx : ChAt (wr.alloc (.cells #[.string cs[k].path, .bool cs[k].old.there, .string cs[k].old.text, .bool cs[k].old.runs, .bool cs[k].new.there, .string cs[k].new.text, .bool cs[k].new.runs] 68)) wr.heap.size 0 cs[k] := by simp [ChAt]
      have m2 := cell_later hals mr
      have hbx := hb0.trans (hals.mono hb0.size)
      have HP2 : Keep (∀ j (hj : j < cs.length), (wr.alloc (.cells #[.string cs[k].path, .bool cs[k].old.there, .string cs[k].old.text, .bool cs[k].old.runs, .bool cs[k].new.there, .string cs[k].new.text, .bool cs[k].new.runs] 68)).cell? ⟨b, off + j * 7, none⟩ = some (.string cs[j].path)) := ⟨fun j hj => cell_later hals (HPREV.out j hj)⟩
      go_upto_region 7 with fail
      go_cut [59] (fun v wx => ∃ bl : Bool, v = .bool bl ∧ (bl = false ↔ POk cs k) ∧ Below w0.heap.size w0 wx)
      case first =>
        generalize wr.alloc (.cells #[.string cs[k].path, .bool cs[k].old.there, .string cs[k].old.text, .bool cs[k].old.runs, .bool cs[k].new.there, .string cs[k].new.text, .bool cs[k].new.runs] 68) = w2 at *
        obtain ⟨xp, hxp⟩ : ∃ xp, cs[k].path = xp := ⟨_, rfl⟩
        obtain ⟨ot, hot⟩ : ∃ x, cs[k].old.there = x := ⟨_, rfl⟩
        obtain ⟨ox, hox⟩ : ∃ x, cs[k].old.text = x := ⟨_, rfl⟩
        obtain ⟨orr, hor⟩ : ∃ x, cs[k].old.runs = x := ⟨_, rfl⟩
        obtain ⟨nt, hnt⟩ : ∃ x, cs[k].new.there = x := ⟨_, rfl⟩
        obtain ⟨nx, hnx⟩ : ∃ x, cs[k].new.text = x := ⟨_, rfl⟩
        obtain ⟨nr, hnr⟩ : ∃ x, cs[k].new.runs = x := ⟨_, rfl⟩
        obtain ⟨y0, y1, y2, y3, y4, y5, y6⟩ := hx
        simp only [Nat.zero_add] at y0 y1 y2 y3 y4 y5 y6
        rw [hxp] at y0
        rw [hot] at y1
        rw [hox] at y2
        rw [hor] at y3
        rw [hnt] at y4
        rw [hnx] at y5
        rw [hnr] at y6
        have z0 : ∀ x : Later w2, x.world.cell? ⟨wr.heap.size, 0, none⟩ = some (.string xp) := fun x => cell_later x.kept y0
        have z1 : ∀ x : Later w2, x.world.cell? ⟨wr.heap.size, 1, none⟩ = some (.bool ot) := fun x => cell_later x.kept y1
        have z2 : ∀ x : Later w2, x.world.cell? ⟨wr.heap.size, 2, none⟩ = some (.string ox) := fun x => cell_later x.kept y2
        have z3 : ∀ x : Later w2, x.world.cell? ⟨wr.heap.size, 3, none⟩ = some (.bool orr) := fun x => cell_later x.kept y3
        have z4 : ∀ x : Later w2, x.world.cell? ⟨wr.heap.size, 4, none⟩ = some (.bool nt) := fun x => cell_later x.kept y4
        have z5 : ∀ x : Later w2, x.world.cell? ⟨wr.heap.size, 5, none⟩ = some (.string nx) := fun x => cell_later x.kept y5
        have z6 : ∀ x : Later w2, x.world.cell? ⟨wr.heap.size, 6, none⟩ = some (.bool nr) := fun x => cell_later x.kept y6
        have zT : ∀ x : Later w2, x.world.cell? ⟨w.heap.size, 0, none⟩ = some (.slice (some ⟨b, off, none⟩) cs.length cap) := fun x => cell_later x.kept m2
        have HBX : Keep (Below w0.heap.size w0 w2) := ⟨hbx⟩
        have HCH : Keep (chOk cs[k] = (pathOk pathB xp && flOk ⟨ot, ox, orr⟩ && flOk ⟨nt, nx, nr⟩ && !sameF ⟨ot, ox, orr⟩ ⟨nt, nx, nr⟩)) := ⟨by rw [← hxp, ← hot, ← hox, ← hor, ← hnt, ← hnx, ← hnr]; rfl⟩
        have HXP : Keep (cs[k].path = xp) := ⟨hxp⟩
        have HC1 : ∀ x : Later w2, Calls Try.prog 36 #[.string xp] x.world fun e w'' => e = .returned (.bool (pathOk pathB xp)) ∧ ∃ y : Later w2, w'' = y.world := fun x => Later.call x (specPath_any _ _)
        have HC2 : ∀ x : Later w2, Calls Try.prog 67 #[.agg #[.bool ot, .string ox, .bool orr]] x.world fun e w'' => e = .returned (.bool (flOk ⟨ot, ox, orr⟩)) ∧ ∃ y : Later w2, w'' = y.world := fun x => Later.call x (l6FileOk_any ⟨ot, ox, orr⟩ _)
        have HC3 : ∀ x : Later w2, Calls Try.prog 67 #[.agg #[.bool nt, .string nx, .bool nr]] x.world fun e w'' => e = .returned (.bool (flOk ⟨nt, nx, nr⟩)) ∧ ∃ y : Later w2, w'' = y.world := fun x => Later.call x (l6FileOk_any ⟨nt, nx, nr⟩ _)
        clear hxp hot hox hor hnt hnx hnr y0 y1 y2 y3 y4 y5 y6 c0 c1 c2 c3 c4 c5 c6 m2 m0 mr hbx hals hal hb hb0 hcs
        cases hp : pathOk pathB xp with
        | false =>
          have HNO : Keep (¬ POk cs k) := ⟨fun ⟨_, h, _⟩ => by rw [HCH.out, hp] at h; simp at h⟩
          rw [hp] at HC1
          replace HC1 := Keep.mk HC1
          replace HC2 := Keep.mk HC2
          replace HC3 := Keep.mk HC3
          (haveI := later_any; refine wp_region_later (by kernel_rfl) (by kernel_rfl) ?_; (repeat (go_big_quiet_step (first | (go_at_call 36; exact HC1.out _) | (go_at_call_of 67 ([Value.agg #[Value.bool ot, Value.string ox, Value.bool orr]] : List Value); exact HC2.out _) | (go_at_call_of 67 ([Value.agg #[Value.bool nt, Value.string nx, Value.bool nr]] : List Value); exact HC3.out _)))); refine wpQuiet_nil ?_; intro _ hwq; obtain ⟨xq, hwq2⟩ := hwq; subst hwq2)
          go_wp2_with fail
          go_meet
          case rel => exact ⟨true, rfl, ⟨fun h => (by cases h), fun h => absurd h HNO.out⟩, HBX.out.trans (xq.kept.mono HBX.out.size)⟩
        | true =>
          rw [hp] at HC1
          replace HC1 := Keep.mk HC1
          cases ho : flOk ⟨ot, ox, orr⟩ with
          | false =>
            have HNO : Keep (¬ POk cs k) := ⟨fun ⟨_, h, _⟩ => by rw [HCH.out, hp, ho] at h; simp at h⟩
            rw [ho] at HC2
            replace HC2 := Keep.mk HC2
            replace HC3 := Keep.mk HC3
            (haveI := later_any; refine wp_region_later (by kernel_rfl) (by kernel_rfl) ?_; (repeat (go_big_quiet_step (first | (go_at_call 36; exact HC1.out _) | (go_at_call_of 67 ([Value.agg #[Value.bool ot, Value.string ox, Value.bool orr]] : List Value); exact HC2.out _) | (go_at_call_of 67 ([Value.agg #[Value.bool nt, Value.string nx, Value.bool nr]] : List Value); exact HC3.out _)))); refine wpQuiet_nil ?_; intro _ hwq; obtain ⟨xq, hwq2⟩ := hwq; subst hwq2)
            go_wp2_with fail
            go_meet
            case rel => exact ⟨true, rfl, ⟨fun h => (by cases h), fun h => absurd h HNO.out⟩, HBX.out.trans (xq.kept.mono HBX.out.size)⟩
          | true =>
            rw [ho] at HC2
            replace HC2 := Keep.mk HC2
            cases hw : flOk ⟨nt, nx, nr⟩ with
            | false =>
              have HNO : Keep (¬ POk cs k) := ⟨fun ⟨_, h, _⟩ => by rw [HCH.out, hp, ho, hw] at h; simp at h⟩
              rw [hw] at HC3
              replace HC3 := Keep.mk HC3
              (haveI := later_any; refine wp_region_later (by kernel_rfl) (by kernel_rfl) ?_; (repeat (go_big_quiet_step (first | (go_at_call 36; exact HC1.out _) | (go_at_call_of 67 ([Value.agg #[Value.bool ot, Value.string ox, Value.bool orr]] : List Value); exact HC2.out _) | (go_at_call_of 67 ([Value.agg #[Value.bool nt, Value.string nx, Value.bool nr]] : List Value); exact HC3.out _)))); refine wpQuiet_nil ?_; intro _ hwq; obtain ⟨xq, hwq2⟩ := hwq; subst hwq2)
              go_wp2_with fail
              go_meet
              case rel => exact ⟨true, rfl, ⟨fun h => (by cases h), fun h => absurd h HNO.out⟩, HBX.out.trans (xq.kept.mono HBX.out.size)⟩
            | true =>
              rw [hw] at HC3
              replace HC3 := Keep.mk HC3
              cases hsm : sameF ⟨ot, ox, orr⟩ ⟨nt, nx, nr⟩ with
              | true =>
                have HNO : Keep (¬ POk cs k) := ⟨fun ⟨_, h, _⟩ => by rw [HCH.out, hsm] at h; simp at h⟩
                obtain ⟨h1, h2, h3⟩ := (same_iff _ _).1 hsm
                simp only at h1 h2 h3
                clear hsm
                have h2' : ox = nx := by rw [Lib.toList_data, Lib.toList_data] at h2; exact WideShapes.bytes_inj h2
                clear h2
                subst h1 h2' h3
                (haveI := later_any; refine wp_region_later (by kernel_rfl) (by kernel_rfl) ?_; (repeat (go_big_quiet_step (first | (go_at_call 36; exact HC1.out _) | (go_at_call_of 67 ([Value.agg #[Value.bool ot, Value.string ox, Value.bool orr]] : List Value); exact HC2.out _) | (go_at_call_of 67 ([Value.agg #[Value.bool nt, Value.string nx, Value.bool nr]] : List Value); exact HC3.out _)))); refine wpQuiet_nil ?_; intro _ hwq; obtain ⟨xq, hwq2⟩ := hwq; subst hwq2)
                go_wp2_with fail
                go_meet
                case rel => exact ⟨true, rfl, ⟨fun h => (by cases h), fun h => absurd h HNO.out⟩, HBX.out.trans (xq.kept.mono HBX.out.size)⟩
              | false =>
                have HOK : Keep (chOk cs[k] = true) := ⟨by rw [HCH.out, hp, ho, hw, hsm]; rfl⟩
                have hne : ¬ (ot = nt ∧ ox.toList = nx.toList ∧ orr = nr) := fun h => by
                  have := (same_iff ⟨ot, ox, orr⟩ ⟨nt, nx, nr⟩).2 h
                  rw [hsm] at this
                  cases this
                clear hsm HCH
                by_cases hk0 : k = 0
                · have hkd : decide (0 < k) = false := by simp [hk0]
                  have HYES : Keep (POk cs k) := ⟨⟨hlt, HOK.out, fun j hj => by omega⟩⟩
                  clear hk0
                  by_cases h1 : ot = nt
                  · by_cases h2 : ox.toList = nx.toList
                    · have h3 : ¬ orr = nr := fun h => hne ⟨h1, h2, h⟩
                      have h2' : ox = nx := by rw [Lib.toList_data, Lib.toList_data] at h2; exact WideShapes.bytes_inj h2
                      clear hne h2
                      subst h1 h2'
                      (haveI := later_any; refine wp_region_later (by kernel_rfl) (by kernel_rfl) ?_; (repeat (go_big_quiet_step (first | (go_at_call 36; exact HC1.out _) | (go_at_call_of 67 ([Value.agg #[Value.bool ot, Value.string ox, Value.bool orr]] : List Value); exact HC2.out _) | (go_at_call_of 67 ([Value.agg #[Value.bool ot, Value.string ox, Value.bool nr]] : List Value); exact HC3.out _)))); refine wpQuiet_nil ?_; intro _ hwq; obtain ⟨xq, hwq2⟩ := hwq; subst hwq2)
                      go_wp2_with fail
                      go_meet
                      case rel => exact ⟨false, rfl, ⟨fun _ => HYES.out, fun _ => rfl⟩, HBX.out.trans (xq.kept.mono HBX.out.size)⟩
                    · clear hne
                      subst h1
                      (haveI := later_any; refine wp_region_later (by kernel_rfl) (by kernel_rfl) ?_; (repeat (go_big_quiet_step (first | (go_at_call 36; exact HC1.out _) | (go_at_call_of 67 ([Value.agg #[Value.bool ot, Value.string ox, Value.bool orr]] : List Value); exact HC2.out _) | (go_at_call_of 67 ([Value.agg #[Value.bool ot, Value.string nx, Value.bool nr]] : List Value); exact HC3.out _)))); refine wpQuiet_nil ?_; intro _ hwq; obtain ⟨xq, hwq2⟩ := hwq; subst hwq2)
                      go_wp2_with fail
                      go_meet
                      case rel => exact ⟨false, rfl, ⟨fun _ => HYES.out, fun _ => rfl⟩, HBX.out.trans (xq.kept.mono HBX.out.size)⟩
                  · clear hne
                    (haveI := later_any; refine wp_region_later (by kernel_rfl) (by kernel_rfl) ?_; (repeat (go_big_quiet_step (first | (go_at_call 36; exact HC1.out _) | (go_at_call_of 67 ([Value.agg #[Value.bool ot, Value.string ox, Value.bool orr]] : List Value); exact HC2.out _) | (go_at_call_of 67 ([Value.agg #[Value.bool nt, Value.string nx, Value.bool nr]] : List Value); exact HC3.out _)))); refine wpQuiet_nil ?_; intro _ hwq; obtain ⟨xq, hwq2⟩ := hwq; subst hwq2)
                    go_wp2_with fail
                    go_meet
                    case rel => exact ⟨false, rfl, ⟨fun _ => HYES.out, fun _ => rfl⟩, HBX.out.trans (xq.kept.mono HBX.out.size)⟩
                · obtain ⟨j, rfl⟩ : ∃ j, k = j + 1 := ⟨k - 1, by omega⟩
                  have hpv : ∀ x : Later w2, x.world.cell? ⟨b, off + j * 7, none⟩ = some (.string cs[j].path) := fun x => cell_later x.kept (HP2.out j (by omega))
                  have hk0' : (0 : Int) < ((j + 1 : Nat) : Int) := by omega
                  have hkd : decide (0 < j + 1) = true := by simp
                  have htot := less_total cs[j].path.toList xp.toList
                  have HIFF : Keep (POk cs (j + 1) ↔ Op.bytesLess cs[j].path.toList xp.toList = true) := ⟨by
                    rw [← HXP.out]
                    constructor
                    · rintro ⟨_, _, h⟩; exact h j rfl (by omega)
                    · intro h
                      refine ⟨hlt, HOK.out, fun i hi hil => ?_⟩
                      obtain rfl : i = j := by omega
                      exact h⟩
                  obtain ⟨pp, hpp⟩ : ∃ pp, cs[j].path = pp := ⟨_, rfl⟩
                  rw [hpp] at hpv htot
                  replace HIFF : Keep (POk cs (j + 1) ↔ Op.bytesLess pp.toList xp.toList = true) := ⟨by rw [← hpp]; exact HIFF.out⟩
                  clear hpp HXP HP2 HPREV HOK hok
                  cases hl : Op.bytesLess pp.toList xp.toList with
                  | true =>
                    have hll : (Op.bytesLess xp.toList pp.toList || xp.toList == pp.toList) = false := by rw [← htot, hl]; rfl
                    have HYES : Keep (POk cs (j + 1)) := ⟨HIFF.out.2 hl⟩
                    clear htot HIFF
                    by_cases h1 : ot = nt
                    · by_cases h2 : ox.toList = nx.toList
                      · have h3 : ¬ orr = nr := fun h => hne ⟨h1, h2, h⟩
                        have h2' : ox = nx := by rw [Lib.toList_data, Lib.toList_data] at h2; exact WideShapes.bytes_inj h2
                        clear hne h2
                        subst h1 h2'
                        (haveI := later_any; refine wp_region_later (by kernel_rfl) (by kernel_rfl) ?_; (repeat (go_big_quiet_step (first | (go_at_call 36; exact HC1.out _) | (go_at_call_of 67 ([Value.agg #[Value.bool ot, Value.string ox, Value.bool orr]] : List Value); exact HC2.out _) | (go_at_call_of 67 ([Value.agg #[Value.bool ot, Value.string ox, Value.bool nr]] : List Value); exact HC3.out _)))); refine wpQuiet_nil ?_; intro _ hwq; obtain ⟨xq, hwq2⟩ := hwq; subst hwq2)
                        go_wp2_with fail
                        go_meet
                        case rel => exact ⟨false, rfl, ⟨fun _ => HYES.out, fun _ => rfl⟩, HBX.out.trans (xq.kept.mono HBX.out.size)⟩
                      · clear hne
                        subst h1
                        (haveI := later_any; refine wp_region_later (by kernel_rfl) (by kernel_rfl) ?_; (repeat (go_big_quiet_step (first | (go_at_call 36; exact HC1.out _) | (go_at_call_of 67 ([Value.agg #[Value.bool ot, Value.string ox, Value.bool orr]] : List Value); exact HC2.out _) | (go_at_call_of 67 ([Value.agg #[Value.bool ot, Value.string nx, Value.bool nr]] : List Value); exact HC3.out _)))); refine wpQuiet_nil ?_; intro _ hwq; obtain ⟨xq, hwq2⟩ := hwq; subst hwq2)
                        go_wp2_with fail
                        go_meet
                        case rel => exact ⟨false, rfl, ⟨fun _ => HYES.out, fun _ => rfl⟩, HBX.out.trans (xq.kept.mono HBX.out.size)⟩
                    · clear hne
                      (haveI := later_any; refine wp_region_later (by kernel_rfl) (by kernel_rfl) ?_; (repeat (go_big_quiet_step (first | (go_at_call 36; exact HC1.out _) | (go_at_call_of 67 ([Value.agg #[Value.bool ot, Value.string ox, Value.bool orr]] : List Value); exact HC2.out _) | (go_at_call_of 67 ([Value.agg #[Value.bool nt, Value.string nx, Value.bool nr]] : List Value); exact HC3.out _)))); refine wpQuiet_nil ?_; intro _ hwq; obtain ⟨xq, hwq2⟩ := hwq; subst hwq2)
                      go_wp2_with fail
                      go_meet
                      case rel => exact ⟨false, rfl, ⟨fun _ => HYES.out, fun _ => rfl⟩, HBX.out.trans (xq.kept.mono HBX.out.size)⟩
                  | false =>
                    have hll : (Op.bytesLess xp.toList pp.toList || xp.toList == pp.toList) = true := by rw [← htot, hl]; rfl
                    have HNO : Keep (¬ POk cs (j + 1)) := ⟨fun h => by have := HIFF.out.1 h; rw [hl] at this; cases this⟩
                    clear htot HIFF
                    by_cases h1 : ot = nt
                    · by_cases h2 : ox.toList = nx.toList
                      · have h3 : ¬ orr = nr := fun h => hne ⟨h1, h2, h⟩
                        have h2' : ox = nx := by rw [Lib.toList_data, Lib.toList_data] at h2; exact WideShapes.bytes_inj h2
                        clear hne h2
                        subst h1 h2'
                        (haveI := later_any; refine wp_region_later (by kernel_rfl) (by kernel_rfl) ?_; (repeat (go_big_quiet_step (first | (go_at_call 36; exact HC1.out _) | (go_at_call_of 67 ([Value.agg #[Value.bool ot, Value.string ox, Value.bool orr]] : List Value); exact HC2.out _) | (go_at_call_of 67 ([Value.agg #[Value.bool ot, Value.string ox, Value.bool nr]] : List Value); exact HC3.out _)))); refine wpQuiet_nil ?_; intro _ hwq; obtain ⟨xq, hwq2⟩ := hwq; subst hwq2)
                        go_wp2_with fail
                        go_meet
                        case rel => exact ⟨true, rfl, ⟨fun h => (by cases h), fun h => absurd h HNO.out⟩, HBX.out.trans (xq.kept.mono HBX.out.size)⟩
                      · clear hne
                        subst h1
                        (haveI := later_any; refine wp_region_later (by kernel_rfl) (by kernel_rfl) ?_; (repeat (go_big_quiet_step (first | (go_at_call 36; exact HC1.out _) | (go_at_call_of 67 ([Value.agg #[Value.bool ot, Value.string ox, Value.bool orr]] : List Value); exact HC2.out _) | (go_at_call_of 67 ([Value.agg #[Value.bool ot, Value.string nx, Value.bool nr]] : List Value); exact HC3.out _)))); refine wpQuiet_nil ?_; intro _ hwq; obtain ⟨xq, hwq2⟩ := hwq; subst hwq2)
                        go_wp2_with fail
                        go_meet
                        case rel => exact ⟨true, rfl, ⟨fun h => (by cases h), fun h => absurd h HNO.out⟩, HBX.out.trans (xq.kept.mono HBX.out.size)⟩
                    · clear hne
                      (haveI := later_any; refine wp_region_later (by kernel_rfl) (by kernel_rfl) ?_; (repeat (go_big_quiet_step (first | (go_at_call 36; exact HC1.out _) | (go_at_call_of 67 ([Value.agg #[Value.bool ot, Value.string ox, Value.bool orr]] : List Value); exact HC2.out _) | (go_at_call_of 67 ([Value.agg #[Value.bool nt, Value.string nx, Value.bool nr]] : List Value); exact HC3.out _)))); refine wpQuiet_nil ?_; intro _ hwq; obtain ⟨xq, hwq2⟩ := hwq; subst hwq2)
                      go_wp2_with fail
                      go_meet
                      case rel => exact ⟨true, rfl, ⟨fun h => (by cases h), fun h => absurd h HNO.out⟩, HBX.out.trans (xq.kept.mono HBX.out.size)⟩
      case rest =>
        obtain ⟨bl, rfl, hbl, hb3⟩ := hcut
        have hbw3 := hal.trans (hb3.mono hal.size)
        cases bl with
        | true =>
          have hbad : ¬ ValidP cs := fun hv => by have := hbl.2 (hv.2 k hlt); cases this
          go_wp2
          go_ret
          exact VpPost.no hbad hbw3
        | false =>
          have HP : Keep (∀ j, j < k + 1 → POk cs j) := ⟨fun j hj => by
            by_cases e : j = k
            · subst e; exact hbl.1 rfl
            · exact hok.out j (by omega)⟩
          clear hbl
          go_wp2
          go_roundw
          case rel => exact ⟨k + 1, by congr 1, hlt, HP, hb3⟩
          case measure => simp only [intOf]; omega
    · obtain rfl : k = cs.length := by omega
      go_wp2
      go_ret
      exact ⟨true, rfl, ⟨fun _ => ⟨by omega, hok.out⟩, fun _ => rfl⟩, hb⟩
end Go.Proofs.Ytjlflmbifeocbaa

namespace Go.Proofs.Ytjlflmbifeocbaa
open Go.RowKit

def UndoRel (cs us : List Ch) : Prop := (ValidP cs ∧ us = cs.map flipC) ∨ (¬ ValidP cs ∧ us = [])
theorem undo_one {cs us us' : List Ch} (h : UndoRel cs us) (h' : UndoRel cs us') : us' = us := by
  rcases h with ⟨h, rfl⟩ | ⟨h, rfl⟩ <;> rcases h' with ⟨h', rfl⟩ | ⟨h', rfl⟩ <;> first | rfl | exact absurd h h' | exact absurd h' h
theorem undo_few {cs us : List Ch} (h : UndoRel cs us) : us.length ≤ cs.length := by
  rcases h with ⟨_, rfl⟩ | ⟨_, rfl⟩ <;> simp
def UndoPost (cs : List Ch) (w : World) (e : Ending) (w' : World) : Prop :=
  ∃ us, UndoRel cs us ∧ (∃ ad cap, e = .returned (.agg #[.slice ad us.length cap]) ∧ CL w.heap.size w' ad us) ∧ Below w.heap.size w w'
theorem flips_take {cs : List Ch} {k : Nat} (hk : k < cs.length) : (cs.take (k + 1)).map flipC = (cs.take k).map flipC ++ [flipC cs[k]] := by
  rw [List.take_succ_eq_append_getElem hk, List.map_append]; rfl

end Go.Proofs.Ytjlflmbifeocbaa

namespace Go.Proofs.Ytjlflmbifeocbaa
open Go.RowKit

theorem flip_ok {c : Ch} (h : chOk c = true) : sameF (flipC c).old (flipC c).new = false ∧ (flipC c).old.text.size ≤ 281474976710656 ∧ (flipC c).new.text.size ≤ 281474976710656 := by
  simp only [chOk, flOk, Bool.and_eq_true, decide_eq_true_eq, Bool.not_eq_true'] at h
  obtain ⟨⟨⟨_, h1, _⟩, h2, _⟩, h3⟩ := h
  refine ⟨?_, by show c.new.text.size ≤ _; omega, by show c.old.text.size ≤ _; omega⟩
  rw [Bool.eq_false_iff] at h3 ⊢
  intro e
  apply h3
  rw [same_iff] at e ⊢
  exact ⟨e.1.symm, e.2.1.symm, e.2.2.symm⟩

/-- What Undo gives, its room besides. -/
def UndoPostC (cs : List Ch) (w : World) (e : Ending) (w' : World) : Prop :=
  ∃ us, UndoRel cs us ∧ (∃ ad cap, e = .returned (.agg #[.slice ad us.length cap]) ∧ CL w.heap.size w' ad us ∧ us.length ≤ cap) ∧ Below w.heap.size w w'

set_option maxRecDepth 100000 in
set_option maxHeartbeats 4000000 in
theorem implUndoC_any (a : Option Addr) (cap : Nat) (cs : List Ch) (w : World) (hcs : CS w a cs) (hn : cs.length ≤ 1048576) (hz : ∀ c ∈ cs, c.path.size ≤ 1048576) :
    Calls Try.prog 11 #[.agg #[.slice a cs.length cap]] w fun e w' => UndoPostC cs w e w' := by
  have hal : Below w.heap.size w ((w.alloc (.cells #[.slice a cs.length cap] 30)).alloc (.cells #[.slice none 0 0] 30)) := ((Below.refl _ _).alloc (Nat.le_refl _) _).alloc (by simp) _
  have m0 : ((w.alloc (.cells #[.slice a cs.length cap] 30)).alloc (.cells #[.slice none 0 0] 30)).cell? ⟨w.heap.size, 0, none⟩ = some (.slice a cs.length cap) := by simp [go_sem]
  have k0 : ((w.alloc (.cells #[.slice a cs.length cap] 30)).alloc (.cells #[.slice none 0 0] 30)).cell? ⟨w.heap.size + 1, 0, none⟩ = some (.slice none 0 0) := by simp [go_sem]
  have kf : ((w.alloc (.cells #[.slice a cs.length cap] 30)).alloc (.cells #[.slice none 0 0] 30)).frozen? ⟨w.heap.size + 1, 0, none⟩ = false := by simp [go_sem]
  have os0 : w.heap.size + 1 < ((w.alloc (.cells #[.slice a cs.length cap] 30)).alloc (.cells #[.slice none 0 0] 30)).heap.size := by simp [go_sem]
  go_enter Try.func11, Try.ntmps11
  go_wp2_with fail
  refine (implPatch_any a cap cs _ (hcs.below hal) hn hz).mono ?_
  rintro e w1 ⟨vb, rfl, hvb, hb1⟩
  replace m0 := cell_later hb1 m0
  replace k0 := cell_later hb1 k0
  replace kf : w1.frozen? ⟨w.heap.size + 1, 0, none⟩ = false := (hb1.frozen (p := ⟨w.heap.size + 1, 0, none⟩) os0).trans kf
  have os1 : w.heap.size + 1 < w1.heap.size := Nat.lt_of_lt_of_le os0 hb1.size
  have hbw := hal.trans (hb1.mono hal.size)
  have HV : Keep (vb = true ↔ ValidP cs) := ⟨hvb⟩
  clear hvb hb1 hal os0
  obtain ⟨g, hg⟩ : ∃ g, g = w.heap.size + 1 := ⟨_, rfl⟩
  obtain ⟨tb, htb⟩ : ∃ tb, tb = w.heap.size := ⟨_, rfl⟩
  rw [← hg] at k0 kf ⊢
  rw [← htb] at m0 ⊢
  have HS : Keep (tb = w.heap.size ∧ g = tb + 1 ∧ g < w1.heap.size) := ⟨by omega⟩
  clear hg htb os1
  cases vb with
  | false =>
    have hnv : ¬ ValidP cs := fun h => by have := HV.out.2 h; cases this
    go_wp2
    refine bodyPost_ret (v := .agg #[.slice none ([] : List Ch).length 0]) ?_ rfl ⟨[], .inr ⟨hnv, rfl⟩, ⟨none, 0, rfl, CL.nil _ _ _, Nat.le_refl _⟩, hbw.setCell (p := ⟨g, 0, none⟩) (by have := HS.out; show _ ≤ g; omega) _⟩
    go_light
    simp [results, Try.results11, go_sem, k0]
  | true =>
    have hv := HV.out.1 rfl
    have hb2 : Below w1.heap.size w1 (w1.alloc (.cells #[.slice none 0 0] 30)) := (Below.refl _ _).alloc (Nat.le_refl _) _
    have o0 : (w1.alloc (.cells #[.slice none 0 0] 30)).cell? ⟨w1.heap.size, 0, none⟩ = some (.slice none 0 0) := by simp
    have of0 : (w1.alloc (.cells #[.slice none 0 0] 30)).frozen? ⟨w1.heap.size, 0, none⟩ = false := by simp
    have os2 : w1.heap.size < (w1.alloc (.cells #[.slice none 0 0] 30)).heap.size := by simp
    replace m0 := cell_later hb2 m0
    replace k0 := cell_later hb2 k0
    replace kf : (w1.alloc (.cells #[.slice none 0 0] 30)).frozen? ⟨g, 0, none⟩ = false := (hb2.frozen (p := ⟨g, 0, none⟩) (by have := HS.out; show g < _; omega)).trans kf
    replace hbw := hbw.trans (hb2.mono hbw.size)
    have hst0 := OutCh.start o0 of0 os2
    have HS2 : Keep (w1.heap.size < (w1.alloc (.cells #[.slice none 0 0] 30)).heap.size) := ⟨os2⟩
    clear o0 of0 os2 hb2
    go_wp2
    generalize w1.alloc (.cells #[.slice none 0 0] 30) = W0 at *
    obtain ⟨ob, hob⟩ : ∃ ob, ob = w1.heap.size := ⟨_, rfl⟩
    rw [← hob] at hst0 HS HS2 ⊢
    clear hob
    go_loopw [13] (fun i wr => ∃ (k : Nat) (v : Value), i = .int .i64 k ∧ k ≤ cs.length ∧ OutCh ob W0 v ((cs.take k).map flipC) wr) (fun i _ => cs.length - (intOf i).toNat)
    case atStart => exact ⟨0, _, rfl, Nat.zero_le _, hst0⟩
    case round =>
      clear hst0
      obtain ⟨k, v, rfl, hk, hst⟩ := hrel
      have hbr := hst.below hbw (by have := HS.out; omega)
      by_cases hlt : k < cs.length
      · have hlt' : (k : Int) < cs.length := by omega
        obtain ⟨b, off, rfl, hc⟩ := (hcs.below hbr).at hlt
        obtain ⟨c0, c1, c2, c3, c4, c5, c6⟩ := hc k hlt
        clear hc
        have HT : Keep ((cs.take (k + 1)).map flipC = (cs.take k).map flipC ++ [flipC cs[k]]) := ⟨flips_take hlt⟩
        have hul : ((cs.take k).map flipC).length ≤ 1048576 := by simp; omega
        obtain ⟨q1, q2, q3⟩ := flip_ok (hv.2 k hlt).2.1
        have hb1 : Below wr.heap.size wr (wr.alloc (.cells #[.string cs[k].path, .bool cs[k].old.there, .string cs[k].old.text, .bool cs[k].old.runs, .bool cs[k].new.there, .string cs[k].new.text, .bool cs[k].new.runs] 68)) := (Below.refl _ _).alloc (Nat.le_refl _) _
        have hch := change_any ob W0 v ((cs.take k).map flipC) (flipC cs[k]) (wr.alloc (.cells #[.string cs[k].path, .bool cs[k].old.there, .string cs[k].old.text, .bool cs[k].old.runs, .bool cs[k].new.there, .string cs[k].new.text, .bool cs[k].new.runs] 68)) (hst.later hb1) hul q1 (by have := hz cs[k] (List.getElem_mem hlt); show cs[k].path.size ≤ _; omega) q2 q3
        simp only [flV, flipC] at hch
        clear q1 q2 q3 hul
        go_wp2_with fail
        refine hch.mono ?_
        rintro e w2 ⟨rfl, ad2, cap2, hst2⟩
        clear hch hb1 c0 c1 c2 c3 c4 c5 c6 hst hbr
        go_wp2
        go_roundw
        case rel => exact ⟨k + 1, _, by congr 1, hlt, by rw [HT.out]; exact hst2⟩
        case measure => simp only [intOf]; omega
      · obtain rfl : k = cs.length := by omega
        rw [List.take_length] at hst
        have o1 := hst.cell
        have k2 := hst.keep k0 (by have := HS.out; have := HS2.out; omega) (by have := HS.out; omega)
        have kf2 : wr.frozen? ⟨g, 0, none⟩ = false := frozen_of (hst.grown.block g (by have := HS.out; have := HS2.out; omega) (fun e => by have := HS.out; cases e; omega)) kf
        obtain ⟨ad, cap2, rfl⟩ := owns_slice hst.row
        have HRM : Keep ((cs.map flipC).length ≤ cap2) := ⟨row_roomO hst.row⟩
        have hcl := cl_of_row hst.row
        have hcl2 : CL w.heap.size (wr.setCell ⟨g, 0, none⟩ (.slice ad cs.length cap2)) ad (cs.map flipC) := (hcl.grown (row := some g) (grown_set0 wr g 0 (.slice ad cs.length cap2)) (fun j _ hj _ e => by have := HS.out; have := HS2.out; cases e; omega)).mono (show w.heap.size ≤ W0.heap.size by have := HS.out; have := HS2.out; omega)
        have HB : Keep (Below w.heap.size w (wr.setCell ⟨g, 0, none⟩ (.slice ad cs.length cap2))) := ⟨hbr.setCell (p := ⟨g, 0, none⟩) (by have := HS.out; show _ ≤ g; omega) _⟩
        clear hcl hst
        go_wp2
        refine bodyPost_ret (v := .agg #[.slice ad (cs.map flipC).length cap2]) ?_ rfl ⟨cs.map flipC, .inl ⟨hv, rfl⟩, ⟨ad, cap2, rfl, hcl2, HRM.out⟩, HB.out⟩
        go_light
        simp [results, Try.results11, go_sem, k2]
theorem implUndo_any (a : Option Addr) (cap : Nat) (cs : List Ch) (w : World) (hcs : CS w a cs) (hn : cs.length ≤ 1048576) (hz : ∀ c ∈ cs, c.path.size ≤ 1048576) :
    Calls Try.prog 11 #[.agg #[.slice a cs.length cap]] w fun e w' => UndoPost cs w e w' :=
  (implUndoC_any a cap cs w hcs hn hz).mono (fun _ _ ⟨cs, h1, ⟨ad, cap, h2, h3, _⟩, h4⟩ => ⟨cs, h1, ⟨ad, cap, h2, h3⟩, h4⟩)
end Go.Proofs.Ytjlflmbifeocbaa
