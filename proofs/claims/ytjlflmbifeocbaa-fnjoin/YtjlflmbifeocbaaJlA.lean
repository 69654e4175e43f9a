/-
  WPt, WTr, RowR, CmpB, NameP, MrgP, PthC, FrontC, CutC, SideC, RangeI, RangeJ, JoinP, ChgN, PatI, Grow, PatV, CBx, StayC, JnB, JoinI, PthE, FrontEC, CutE, SideEC, RegV, RegW, FileE, AtS, FilP, AppP, EBx, ImplTree, EntOf, AppB, AppR, LyS, ApR, PatS, ApS: laid as one text.
-/
import Derived.Test.YtjlflmbifeocbaaChangesB
import Derived.Test.YtjlflmbifeocbaaLaterQ
import Derived.Test.YtjlflmbifeocbaaDrawPth
import Derived.Deep.DeepCutAuto
import Derived.Test.YtjlflmbifeocbaaEntB
import Derived.Test.YtjlflmbifeocbaaOutL
import Derived.Test.YtjlflmbifeocbaaRows
import Derived.WalkKit
import Derived.WalkSpells
import Derived.Lib.Bytealg
import Derived.Laws.Externs
import Derived.Laws.Strings3
import Derived.Test.YtjlflmbifeocbaaSetP
import Derived.Test.YtjlflmbifeocbaaSplitP
import Derived.Deep.RegionWith
import Derived.Below
import Derived.RangeFuncNested
import Derived.RangeFuncBound
import Derived.RangeFuncCalls
import Derived.RangeFuncLeaves
import Derived.Shelf.Abstract
import Derived.Shelf.RegionOpen
import Derived.OwnWalkIn
import Derived.TacticsInMore
import Derived.LoopNIn
import Derived.LoopIn
import Derived.Sort.CutIn
import Derived.RangeFuncFrom
import Derived.Test.YtjlflmbifeocbaaPatP
import Derived.Test.YtjlflmbifeocbaaChOut
import Derived.Test.YtjlflmbifeocbaaCopyF
import Derived.Test.YtjlflmbifeocbaaTreeP
import Derived.Deep.QuietTactic
import Derived.BigQuiet
import Derived.Test.YtjlflmbifeocbaaChgI
import Derived.Test.YtjlflmbifeocbaaEntL
import Derived.OrdersIn
import Derived.Test.YtjlflmbifeocbaaTreeU
import Derived.Test.YtjlflmbifeocbaaClone
import Derived.Deep.AppendLies
import Derived.Test.YtjlflmbifeocbaaSetS
import Derived.Deep.RegionLaw
import Derived.Test.YtjlflmbifeocbaaSpecPath
import Derived.Test.YtjlflmbifeocbaaCopyT
import Derived.Test.YtjlflmbifeocbaaSpecTree
import Derived.Deep.CutRange
namespace Go.Proofs.Ytjlflmbifeocbaa
open Go.RowKit

set_option maxRecDepth 20000 in
set_option maxHeartbeats 2000000 in
theorem wPatch_any (a b : Option Addr) (ca cb : Nat) (ts : List Ch) (w : World) (ha : CS w a ts) (hb : CS w b ts) (hn : ts.length ≤ 1048576) :
    Calls Try.prog 7 #[.agg #[.slice a ts.length ca], .agg #[.slice b ts.length cb]] w fun e w' => e = .returned (.bool true) ∧ Below w.heap.size w w' := by
  have hal : Below w.heap.size w ((w.alloc (.cells #[.slice a ts.length ca] 30)).alloc (.cells #[.slice b ts.length cb] 30)) := ((Below.refl _ _).alloc (Nat.le_refl _) _).alloc (by simp) _
  have m0 : ((w.alloc (.cells #[.slice a ts.length ca] 30)).alloc (.cells #[.slice b ts.length cb] 30)).cell? ⟨w.heap.size, 0, none⟩ = some (.slice a ts.length ca) := by simp [go_sem]
  have n0 : ((w.alloc (.cells #[.slice a ts.length ca] 30)).alloc (.cells #[.slice b ts.length cb] 30)).cell? ⟨w.heap.size + 1, 0, none⟩ = some (.slice b ts.length cb) := by simp [go_sem]
  go_enter Try.func7, Try.ntmps7
  go_wp2
  generalize (w.alloc (.cells #[.slice a ts.length ca] 30)).alloc (.cells #[.slice b ts.length cb] 30) = W0 at *
  go_loopw [5] (fun i wr => ∃ k : Nat, i = .int .i64 k ∧ k ≤ ts.length ∧ Below W0.heap.size W0 wr) (fun i _ => ts.length - (intOf i).toNat)
  case atStart => exact ⟨0, rfl, Nat.zero_le _, Below.refl _ _⟩
  case round =>
    obtain ⟨k, rfl, hk, hB⟩ := hrel
    have M := cell_later hB m0
    have N := cell_later hB n0
    have hBw := hal.trans (hB.mono hal.size)
    by_cases hlt : k < ts.length
    · have hlt' : (k : Int) < ts.length := by omega
      obtain ⟨b1, o1, rfl, h1⟩ := (ha.below hBw).at hlt
      obtain ⟨b2, o2, rfl, h2⟩ := (hb.below hBw).at hlt
      obtain ⟨x0, x1, x2, x3, x4, x5, x6⟩ := h1 k hlt
      obtain ⟨y0, y1, y2, y3, y4, y5, y6⟩ := h2 k hlt
      clear h1 h2
      go_wp2
      go_quiet (fail)
      go_wp2
      go_roundw
      case rel => exact ⟨k + 1, by congr 1, hlt, below_drewN hB _⟩
      case measure => simp only [intOf]; omega
    · obtain rfl : k = ts.length := by omega
      go_wp2
      go_ret
      exact ⟨rfl, hBw⟩
end Go.Proofs.Ytjlflmbifeocbaa

namespace Go.Proofs.Ytjlflmbifeocbaa
open Go.RowKit

/-- A tree in a box. -/
structure TBx (b : Nat) (ad : Option Addr) (cp : Nat) (ts : List En) (W : World) : Prop where
  c : W.cell? ⟨b, 0, none⟩ = some (.slice ad ts.length cp)
  es : ES W ad ts
theorem TBx.later {b : Nat} {ad : Option Addr} {cp : Nat} {ts : List En} {W W' : World} (h : TBx b ad cp ts W) (hb : Below W.heap.size W W') : TBx b ad cp ts W' := ⟨cell_later hb h.c, h.es.below hb⟩
theorem TBx.new {ad : Option Addr} {cp : Nat} {ts : List En} {W : World} (h : ES W ad ts) : TBx W.heap.size ad cp ts (W.alloc (.cells #[.slice ad ts.length cp] 25)) := ⟨by simp, h.below (below_oneD _ _)⟩

set_option maxRecDepth 20000 in
set_option maxHeartbeats 2000000 in
theorem wTree_any (a b : Option Addr) (ca cb : Nat) (ts : List En) (w : World) (ha : ES w a ts) (hb : ES w b ts) (hn : ts.length ≤ 1048576) :
    Calls Try.prog 12 #[.agg #[.slice a ts.length ca], .agg #[.slice b ts.length cb]] w fun e w' => e = .returned (.bool true) ∧ Below w.heap.size w w' := by
  have hal : Below w.heap.size w ((w.alloc (.cells #[.slice a ts.length ca] 25)).alloc (.cells #[.slice b ts.length cb] 25)) := ((Below.refl _ _).alloc (Nat.le_refl _) _).alloc (by simp) _
  have m0 : ((w.alloc (.cells #[.slice a ts.length ca] 25)).alloc (.cells #[.slice b ts.length cb] 25)).cell? ⟨w.heap.size, 0, none⟩ = some (.slice a ts.length ca) := by simp [go_sem]
  have n0 : ((w.alloc (.cells #[.slice a ts.length ca] 25)).alloc (.cells #[.slice b ts.length cb] 25)).cell? ⟨w.heap.size + 1, 0, none⟩ = some (.slice b ts.length cb) := by simp [go_sem]
  go_enter Try.func12, Try.ntmps12
  go_wp2
  generalize (w.alloc (.cells #[.slice a ts.length ca] 25)).alloc (.cells #[.slice b ts.length cb] 25) = W0 at *
  go_loopw [5] (fun i wr => ∃ k : Nat, i = .int .i64 k ∧ k ≤ ts.length ∧ Below W0.heap.size W0 wr) (fun i _ => ts.length - (intOf i).toNat)
  case atStart => exact ⟨0, rfl, Nat.zero_le _, Below.refl _ _⟩
  case round =>
    obtain ⟨k, rfl, hk, hB⟩ := hrel
    have M := cell_later hB m0
    have N := cell_later hB n0
    have hBw := hal.trans (hB.mono hal.size)
    by_cases hlt : k < ts.length
    · have hlt' : (k : Int) < ts.length := by omega
      obtain ⟨b1, o1, rfl, h1⟩ := (ha.below hBw).at hlt
      obtain ⟨b2, o2, rfl, h2⟩ := (hb.below hBw).at hlt
      obtain ⟨x0, x1, x2⟩ := h1 k hlt
      obtain ⟨y0, y1, y2⟩ := h2 k hlt
      clear h1 h2
      go_wp2
      go_quiet (fail)
      go_wp2
      go_roundw
      case rel => exact ⟨k + 1, by congr 1, hlt, below_drewN hB _⟩
      case measure => simp only [intOf]; omega
    · obtain rfl : k = ts.length := by omega
      go_wp2
      go_ret
      exact ⟨rfl, hBw⟩
end Go.Proofs.Ytjlflmbifeocbaa

namespace Go.Proofs.Ytjlflmbifeocbaa
open Go.RowKit

theorem row_roomO {W : World} {B z : Nat} {e : TypeId} {ad : Option Addr} {n cp : Nat} {xs : List Value} (h : W.ownsRow B e z (.slice ad n cp) n xs) : n ≤ cp := by
  rcases h.2 with ⟨h0, _⟩ | ⟨_, _, _, h0, _, _, h1, _⟩
  · cases h0; exact Nat.le_refl _
  · cases h0; exact h1
end Go.Proofs.Ytjlflmbifeocbaa

namespace Go.Proofs.Ytjlflmbifeocbaa
open Go.RowKit Go.Lib

set_option maxHeartbeats 1000000 in
set_option maxRecDepth 100000 in
theorem cmpString_any (a b : ByteArray) (w : World) :
    Calls Try.prog 78 #[.string a, .string b] w fun e w' => e = .returned (.int .i64 (Lib.compareBytes a.data.toList b.data.toList)) ∧ w' = w := by
  go_enter Try.func78, Try.ntmps78
  go_wp2
  rw [run_callFunc_extern Try.func83 (by kernel_rfl) (by kernel_rfl) (by kernel_rfl) (e := Extern.BytealgCompare.compare) (by kernel_rfl), Lib.run_compareString]
  simp only [Result.andThen]
  rw [Oper.upon_value]
  go_wp2
  go_ret
  exact ⟨rfl, rfl⟩

set_option maxHeartbeats 1000000 in
theorem compare_any (a b : ByteArray) (w : World) :
    Calls Try.prog 71 #[.string a, .string b] w fun e w' => e = .returned (.int .i64 (Lib.compareBytes a.data.toList b.data.toList)) ∧ w' = w := by
  go_enter Try.func71, Try.ntmps71
  go_wp2_with (go_at_call 78; refine (cmpString_any _ _ _).mono ?_; rintro e w' ⟨rfl, rfl⟩)
  go_ret
  exact ⟨rfl, rfl⟩

theorem compare_neg : ∀ {a b : List UInt8}, Lib.compareBytes a b < 0 ↔ Op.bytesLess a b = true
  | [], [] => by simp [Lib.compareBytes, Op.bytesLess]
  | [], _ :: _ => by simp [Lib.compareBytes, Op.bytesLess]
  | _ :: _, [] => by simp [Lib.compareBytes, Op.bytesLess]
  | x :: a, y :: b => by
    have ih := compare_neg (a := a) (b := b)
    by_cases h : x < y
    · simp [Lib.compareBytes, Op.bytesLess, h]
    · by_cases h2 : y < x
      · have hne : ¬ x = y := fun e => by subst e; exact h h2
        simp [Lib.compareBytes, Op.bytesLess, h, h2, hne]
      · have he : x = y := by
          rw [UInt8.lt_iff_toNat_lt] at h h2
          exact UInt8.toNat_inj.1 (by omega)
        subst he
        simp [Lib.compareBytes, Op.bytesLess, h, ih]

end Go.Proofs.Ytjlflmbifeocbaa

namespace Go.Proofs.Ytjlflmbifeocbaa
open Go.RowKit

def AscN (l : List ByteArray) : Prop := l.Pairwise fun a b => Op.bytesLess a.toList b.toList = true
def stepN (s : ByteArray) (r : List ByteArray × Bool) (x : ByteArray) : List ByteArray × Bool :=
  if r.2 = true then (if (x.toList != s.toList) = true then r.1 ++ [x] else r.1, true)
  else if Op.bytesLess x.toList s.toList = true then (r.1 ++ [x], false)
  else (if (x.toList != s.toList) = true then r.1 ++ [s] ++ [x] else r.1 ++ [s], true)
def foldN (s : ByteArray) (l : List ByteArray) : List ByteArray × Bool := l.foldl (stepN s) ([], false)
theorem foldN_take {s : ByteArray} {ls : List ByteArray} {k : Nat} (hk : k < ls.length) : foldN s (ls.take (k + 1)) = stepN s (foldN s (ls.take k)) ls[k] := by
  unfold foldN
  rw [List.take_succ_eq_append_getElem hk, List.foldl_append]
  rfl
def nameL (ls : List ByteArray) (s : ByteArray) : List ByteArray := if (foldN s ls).2 = true then (foldN s ls).1 else (foldN s ls).1 ++ [s]

theorem ne_toList {x s : ByteArray} : (x.toList != s.toList) = true ↔ x ≠ s := by
  rw [bne_iff_ne]
  constructor
  · intro h e; exact h (by rw [e])
  · intro h e
    rw [Lib.toList_data, Lib.toList_data] at e
    exact h (WideShapes.bytes_inj e)
theorem foldN_len (s : ByteArray) (ls : List ByteArray) : ∀ k, k ≤ ls.length → ((foldN s (ls.take k)).2 = false → (foldN s (ls.take k)).1.length ≤ k) ∧ (foldN s (ls.take k)).1.length ≤ k + 1
  | 0, _ => by simp [foldN]
  | k + 1, hk => by
    obtain ⟨h1, h2⟩ := foldN_len s ls k (by omega)
    rw [foldN_take (by omega)]
    generalize foldN s (ls.take k) = r at *
    unfold stepN
    cases hr : r.2 with
    | true =>
      simp only [if_true]
      refine ⟨fun h => by simp at h, ?_⟩
      split
      · simp; omega
      · show r.1.length ≤ _; omega
    | false =>
      have := h1 hr
      simp only [Bool.false_eq_true, if_false]
      split
      · simp; omega
      · refine ⟨fun h => (by cases h), ?_⟩
        show (if (ls[k].toList != s.toList) = true then r.1 ++ [s] ++ [ls[k]] else r.1 ++ [s]).length ≤ _
        split
        · simp; omega
        · simp; omega
theorem nameL_len (ls : List ByteArray) (s : ByteArray) : (nameL ls s).length ≤ ls.length + 1 := by
  have h := foldN_len s ls ls.length (Nat.le_refl _)
  rw [List.take_length] at h
  unfold nameL
  split
  · omega
  · rename_i h0
    have := h.1 (by simpa using h0)
    simp; omega
/-- How it stands when some are looked through. -/
theorem foldN_inv (s : ByteArray) (ls : List ByteArray) (hA : AscN ls) : ∀ k, k ≤ ls.length →
    ((foldN s (ls.take k)).2 = false → (foldN s (ls.take k)).1 = ls.take k ∧ ∀ x ∈ ls.take k, Op.bytesLess x.toList s.toList = true) ∧
    ((foldN s (ls.take k)).2 = true → AscN (foldN s (ls.take k)).1 ∧ (∀ y, y ∈ (foldN s (ls.take k)).1 ↔ y ∈ ls.take k ∨ y = s) ∧ ∃ z ∈ ls.take k, Op.bytesLess z.toList s.toList = false)
  | 0, _ => by simp [foldN]
  | k + 1, hk => by
    obtain ⟨h1, h2⟩ := foldN_inv s ls hA k (by omega)
    have hk' : k < ls.length := by omega
    have hlt : ∀ z ∈ ls.take k, Op.bytesLess z.toList ls[k].toList = true := fun z hz => by
      obtain ⟨i, hi, rfl⟩ := List.getElem_of_mem hz
      rw [List.getElem_take]
      have hi2 : i < k := by simp at hi; omega
      exact List.pairwise_iff_getElem.1 hA i k (by omega) hk' hi2
    have htk : ∀ y, y ∈ ls.take (k + 1) ↔ y ∈ ls.take k ∨ y = ls[k] := fun y => by
      rw [List.take_succ_eq_append_getElem hk', List.mem_append, List.mem_singleton]
    rw [foldN_take hk']
    generalize foldN s (ls.take k) = r at *
    unfold stepN
    cases hr : r.2 with
    | true =>
      obtain ⟨a1, a2, z, hz, hzs⟩ := h2 hr
      have hsx : Op.bytesLess s.toList ls[k].toList = true := by
        by_cases e : z = s
        · rw [← e]; exact hlt z hz
        · exact less_trans (less_of hzs e) (hlt z hz)
      have hne : (ls[k].toList != s.toList) = true := ne_toList.2 (fun e => by rw [e] at hsx; rw [less_irrefl] at hsx; cases hsx)
      simp only [if_true, hne]
      refine ⟨fun h => by simp at h, fun _ => ⟨?_, fun y => ?_, z, (htk z).2 (.inl hz), hzs⟩⟩
      · refine List.pairwise_append.2 ⟨a1, List.pairwise_singleton _ _, fun y hy x hx => ?_⟩
        rw [List.mem_singleton.1 hx]
        rcases (a2 y).1 hy with h | h
        · exact hlt y h
        · rw [h]; exact hsx
      · rw [List.mem_append, List.mem_singleton, a2, htk]
        constructor
        · rintro ((h | h) | h)
          · exact .inl (.inl h)
          · exact .inr h
          · exact .inl (.inr h)
        · rintro ((h | h) | h)
          · exact .inl (.inl h)
          · exact .inr h
          · exact .inl (.inr h)
    | false =>
      obtain ⟨a1, a2⟩ := h1 hr
      simp only [Bool.false_eq_true, if_false]
      by_cases hl : Op.bytesLess ls[k].toList s.toList = true
      · rw [if_pos hl]
        refine ⟨fun _ => ⟨?_, fun y hy => ?_⟩, fun h => by simp at h⟩
        · show r.1 ++ [ls[k]] = _
          rw [a1, List.take_succ_eq_append_getElem hk']
        · rcases (htk y).1 hy with h | h
          · exact a2 y h
          · rw [h]; exact hl
      · rw [if_neg hl]
        have hl' : Op.bytesLess ls[k].toList s.toList = false := by simpa using hl
        have hs1 : AscN (r.1 ++ [s]) := by
          rw [a1]
          refine List.pairwise_append.2 ⟨hA.sublist (List.take_sublist _ _), List.pairwise_singleton _ _, fun y hy x hx => ?_⟩
          rw [List.mem_singleton.1 hx]; exact a2 y hy
        refine ⟨fun h => by simp at h, fun _ => ?_⟩
        by_cases e : ls[k] = s
        · have hne : (ls[k].toList != s.toList) = false := by rw [e]; simp
          simp only [hne, Bool.false_eq_true, if_false]
          refine ⟨hs1, fun y => ?_, ls[k], (htk _).2 (.inr rfl), hl'⟩
          rw [List.mem_append, List.mem_singleton, a1, htk, e]
          constructor
          · rintro (h | h)
            · exact .inl (.inl h)
            · exact .inr h
          · rintro ((h | h) | h)
            · exact .inl h
            · exact .inr h
            · exact .inr h
        · have hne : (ls[k].toList != s.toList) = true := ne_toList.2 e
          simp only [hne, if_true]
          have hsx := less_of hl' e
          refine ⟨List.pairwise_append.2 ⟨hs1, List.pairwise_singleton _ _, fun y hy x hx => ?_⟩, fun y => ?_, ls[k], (htk _).2 (.inr rfl), hl'⟩
          · rw [List.mem_singleton.1 hx]
            rcases List.mem_append.1 hy with h | h
            · rw [a1] at h; exact hlt y h
            · rw [List.mem_singleton.1 h]; exact hsx
          · rw [List.mem_append, List.mem_append, List.mem_singleton, List.mem_singleton, a1, htk]
            constructor
            · rintro ((h | h) | h)
              · exact .inl (.inl h)
              · exact .inr h
              · exact .inl (.inr h)
            · rintro ((h | h) | h)
              · exact .inl (.inl h)
              · exact .inr h
              · exact .inl (.inr h)
theorem nameL_asc {ls : List ByteArray} {s : ByteArray} (hA : AscN ls) : AscN (nameL ls s) ∧ ∀ y, y ∈ nameL ls s ↔ y ∈ ls ∨ y = s := by
  have h := foldN_inv s ls hA ls.length (Nat.le_refl _)
  rw [List.take_length] at h
  unfold nameL
  split
  · rename_i h0
    exact ⟨(h.2 h0).1, (h.2 h0).2.1⟩
  · rename_i h0
    obtain ⟨a1, a2⟩ := h.1 (by simpa using h0)
    rw [a1]
    refine ⟨List.pairwise_append.2 ⟨hA, List.pairwise_singleton _ _, fun y hy x hx => ?_⟩, fun y => ?_⟩
    · rw [List.mem_singleton.1 hx]; exact a2 y hy
    · rw [List.mem_append, List.mem_singleton]
theorem ascN_unique : ∀ {l m : List ByteArray}, AscN l → AscN m → (∀ e, e ∈ l ↔ e ∈ m) → l = m
  | [], [], _, _, _ => rfl
  | [], y :: m, _, _, h => by have := (h y).2 (by simp); cases this
  | x :: l, [], _, _, h => by have := (h x).1 (by simp); cases this
  | x :: l, y :: m, hl, hm, h => by
    obtain ⟨hx, hl'⟩ := List.pairwise_cons.1 hl
    obtain ⟨hy, hm'⟩ := List.pairwise_cons.1 hm
    have hirr : ∀ z : ByteArray, Op.bytesLess z.toList z.toList ≠ true := fun z e => by rw [less_irrefl] at e; cases e
    have exy : x = y := by
      rcases List.mem_cons.1 ((h x).1 (by simp)) with e | e
      · exact e
      · rcases List.mem_cons.1 ((h y).2 (by simp)) with e' | e'
        · exact e'.symm
        · exact absurd (less_trans (hx y e') (hy x e)) (hirr x)
    subst exy
    rw [ascN_unique hl' hm' (fun e => by
      constructor
      · intro he
        rcases List.mem_cons.1 ((h e).1 (by simp [he])) with h1 | h1
        · rw [h1] at he; exact absurd (hx _ he) (hirr _)
        · exact h1
      · intro he
        rcases List.mem_cons.1 ((h e).2 (by simp [he])) with h1 | h1
        · rw [h1] at he; exact absurd (hy _ he) (hirr _)
        · exact h1)]
end Go.Proofs.Ytjlflmbifeocbaa

namespace Go.Proofs.Ytjlflmbifeocbaa
open Go.RowKit

theorem compare_pos : ∀ {a b : List UInt8}, 0 < Lib.compareBytes a b ↔ Op.bytesLess b a = true
  | [], [] => by simp [Lib.compareBytes, Op.bytesLess]
  | [], _ :: _ => by simp [Lib.compareBytes, Op.bytesLess]
  | _ :: _, [] => by simp [Lib.compareBytes, Op.bytesLess]
  | x :: a, y :: b => by
    have ih := compare_pos (a := a) (b := b)
    by_cases h : x < y
    · have h2 : ¬ y < x := fun e => by rw [UInt8.lt_iff_toNat_lt] at h e; omega
      have hne : ¬ y = x := fun e => by subst e; exact h2 h
      simp [Lib.compareBytes, Op.bytesLess, h, h2, hne]
    · by_cases h2 : y < x
      · simp [Lib.compareBytes, Op.bytesLess, h, h2]
      · have he : x = y := by
          rw [UInt8.lt_iff_toNat_lt] at h h2
          exact UInt8.toNat_inj.1 (by omega)
        subst he
        simp [Lib.compareBytes, Op.bytesLess, h, ih]

def mrg {α β : Type} (pa : α → ByteArray) (pb : β → ByteArray) : Nat → List α → List β → List (ByteArray × Option α × Option β)
  | 0, _, _ => []
  | _ + 1, [], [] => []
  | n + 1, [], y :: us => (pb y, none, some y) :: mrg pa pb n [] us
  | n + 1, x :: ts, [] => (pa x, some x, none) :: mrg pa pb n ts []
  | n + 1, x :: ts, y :: us =>
    if Lib.compareBytes (pa x).data.toList (pb y).data.toList < 0 then (pa x, some x, none) :: mrg pa pb n ts (y :: us)
    else if 0 < Lib.compareBytes (pa x).data.toList (pb y).data.toList then (pb y, none, some y) :: mrg pa pb n (x :: ts) us
    else (pa x, some x, some y) :: mrg pa pb n ts us

/-- What stands under a path. -/
def fnd {α : Type} (pa : α → ByteArray) (ts : List α) (p : ByteArray) : Option α := ts.find? fun x => (pa x).toList == p.toList
def AscK {α : Type} (pa : α → ByteArray) (ts : List α) : Prop := ts.Pairwise fun a b => Op.bytesLess (pa a).toList (pa b).toList = true
theorem eqb_iff {x y : ByteArray} : (x.toList == y.toList) = true ↔ x = y := by
  constructor
  · intro h
    have h1 : x.toList = y.toList := by simpa using h
    rw [Lib.toList_data, Lib.toList_data] at h1
    exact WideShapes.bytes_inj h1
  · intro h; rw [h]; simp
theorem neb_iff {x y : ByteArray} : (x.toList == y.toList) = false ↔ x ≠ y := by
  rw [Bool.eq_false_iff, ne_eq, eqb_iff]
theorem fnd_cons_ne {α : Type} {pa : α → ByteArray} {x : α} {ts : List α} {p : ByteArray} (h : pa x ≠ p) : fnd pa (x :: ts) p = fnd pa ts p := by
  unfold fnd
  rw [List.find?_cons, neb_iff.2 h]
theorem fnd_cons_eq {α : Type} {pa : α → ByteArray} {x : α} {ts : List α} {p : ByteArray} (h : pa x = p) : fnd pa (x :: ts) p = some x := by
  unfold fnd
  rw [List.find?_cons, eqb_iff.2 h]
theorem fnd_none {α : Type} {pa : α → ByteArray} {ts : List α} {p : ByteArray} (h : ∀ x ∈ ts, pa x ≠ p) : fnd pa ts p = none := by
  unfold fnd
  rw [List.find?_eq_none]
  intro x hx e
  exact h x hx (eqb_iff.1 e)
theorem fnd_some {α : Type} {pa : α → ByteArray} {ts : List α} {p : ByteArray} {x : α} (h : fnd pa ts p = some x) : x ∈ ts ∧ pa x = p := by
  unfold fnd at h
  obtain ⟨h2, l1, l2, rfl, _⟩ := List.find?_eq_some_iff_append.1 h
  exact ⟨by simp, eqb_iff.1 h2⟩

theorem toList_eq_data (x : ByteArray) : x.toList = x.data.toList := Lib.toList_data x

/-- The least of names comes first. -/
theorem ascN_head {ns : List ByteArray} {p : ByteArray} (hA : AscN ns) (hp : p ∈ ns) (hl : ∀ q ∈ ns, q ≠ p → Op.bytesLess p.toList q.toList = true) :
    ∃ r, ns = p :: r ∧ AscN r ∧ (∀ q ∈ r, q ≠ p) := by
  cases ns with
  | nil => cases hp
  | cons q r =>
    obtain ⟨hq, hr⟩ := List.pairwise_cons.1 hA
    have hirr : ∀ z : ByteArray, Op.bytesLess z.toList z.toList ≠ true := fun z e => by rw [less_irrefl] at e; cases e
    have e : q = p := by
      rcases List.mem_cons.1 hp with e | e
      · exact e.symm
      · by_cases h : q = p
        · exact h
        · exact absurd (less_trans (hq p e) (hl q (by simp) h)) (hirr q)
    subst e
    exact ⟨r, rfl, hr, fun z hz e => by rw [e] at hz; exact hirr q (hq q hz)⟩

theorem mrg_eq {α β : Type} (pa : α → ByteArray) (pb : β → ByteArray) : ∀ (n : Nat) (ts : List α) (us : List β) (ns : List ByteArray), ts.length + us.length ≤ n → AscK pa ts → AscK pb us → AscN ns →
    (∀ p, p ∈ ns ↔ (∃ x ∈ ts, pa x = p) ∨ ∃ y ∈ us, pb y = p) → mrg pa pb n ts us = ns.map fun p => (p, fnd pa ts p, fnd pb us p)
  | 0, ts, us, ns, hn, _, _, _, hm => by
    have h1 : ts = [] := List.eq_nil_of_length_eq_zero (by omega)
    have h2 : us = [] := List.eq_nil_of_length_eq_zero (by omega)
    subst h1 h2
    cases ns with
    | nil => rfl
    | cons p ns => have := (hm p).1 (by simp); simp at this
  | n + 1, [], [], ns, _, _, _, _, hm => by
    cases ns with
    | nil => rfl
    | cons p ns => have := (hm p).1 (by simp); simp at this
  | n + 1, [], y :: us, ns, hn, hA, hB, hN, hm => by
    obtain ⟨hy, hB'⟩ := List.pairwise_cons.1 hB
    obtain ⟨r, rfl, hr, hq⟩ := ascN_head (p := pb y) hN ((hm _).2 (.inr ⟨y, by simp, rfl⟩)) (fun q h1 h2 => by
      rcases (hm q).1 h1 with ⟨x, hx, _⟩ | ⟨z, hz, rfl⟩
      · cases hx
      · rcases List.mem_cons.1 hz with e | e
        · exact absurd (by rw [e]) h2
        · exact hy z e)
    have ih := mrg_eq pa pb n [] us r (by simp at hn ⊢; omega) hA hB' hr (fun p => by
      constructor
      · intro hp
        rcases (hm p).1 (by simp [hp]) with ⟨x, hx, _⟩ | ⟨z, hz, rfl⟩
        · cases hx
        · rcases List.mem_cons.1 hz with e | e
          · exact absurd (by rw [e]) (hq _ hp)
          · exact .inr ⟨z, e, rfl⟩
      · rintro (⟨x, hx, _⟩ | ⟨z, hz, rfl⟩)
        · cases hx
        · rcases List.mem_cons.1 ((hm (pb z)).2 (.inr ⟨z, by simp [hz], rfl⟩)) with e | e
          · exact absurd e.symm (less_ne (hy z hz))
          · exact e)
    show (pb y, none, some y) :: mrg pa pb n [] us = _
    rw [ih, List.map_cons]
    congr 1
    · rw [fnd_cons_eq rfl]; rfl
    · refine List.map_congr_left fun p hp => ?_
      rw [fnd_cons_ne (fun e => hq p hp e.symm)]
  | n + 1, x :: ts, [], ns, hn, hA, hB, hN, hm => by
    obtain ⟨hx, hA'⟩ := List.pairwise_cons.1 hA
    obtain ⟨r, rfl, hr, hq⟩ := ascN_head (p := pa x) hN ((hm _).2 (.inl ⟨x, by simp, rfl⟩)) (fun q h1 h2 => by
      rcases (hm q).1 h1 with ⟨z, hz, rfl⟩ | ⟨x, hx, _⟩
      · rcases List.mem_cons.1 hz with e | e
        · exact absurd (by rw [e]) h2
        · exact hx z e
      · cases hx)
    have ih := mrg_eq pa pb n ts [] r (by simp at hn ⊢; omega) hA' hB hr (fun p => by
      constructor
      · intro hp
        rcases (hm p).1 (by simp [hp]) with ⟨z, hz, rfl⟩ | ⟨x, hx, _⟩
        · rcases List.mem_cons.1 hz with e | e
          · exact absurd (by rw [e]) (hq _ hp)
          · exact .inl ⟨z, e, rfl⟩
        · cases hx
      · rintro (⟨z, hz, rfl⟩ | ⟨x, hx, _⟩)
        · rcases List.mem_cons.1 ((hm (pa z)).2 (.inl ⟨z, by simp [hz], rfl⟩)) with e | e
          · exact absurd e.symm (less_ne (hx z hz))
          · exact e
        · cases hx)
    show (pa x, some x, none) :: mrg pa pb n ts [] = _
    rw [ih, List.map_cons]
    congr 1
    · rw [fnd_cons_eq rfl]; rfl
    · refine List.map_congr_left fun p hp => ?_
      rw [fnd_cons_ne (fun e => hq p hp e.symm)]
  | n + 1, x :: ts, y :: us, ns, hn, hA, hB, hN, hm => by
    obtain ⟨hx, hA'⟩ := List.pairwise_cons.1 hA
    obtain ⟨hy, hB'⟩ := List.pairwise_cons.1 hB
    unfold mrg
    by_cases hlt : Lib.compareBytes (pa x).data.toList (pb y).data.toList < 0
    · rw [if_pos hlt]
      have hxy : Op.bytesLess (pa x).toList (pb y).toList = true := by rw [toList_eq_data, toList_eq_data]; exact compare_neg.1 hlt
      have hyl : ∀ z ∈ y :: us, Op.bytesLess (pa x).toList (pb z).toList = true := fun z hz => by
        rcases List.mem_cons.1 hz with e | e
        · rw [e]; exact hxy
        · exact less_trans hxy (hy z e)
      obtain ⟨r, rfl, hr, hq⟩ := ascN_head (p := pa x) hN ((hm _).2 (.inl ⟨x, by simp, rfl⟩)) (fun q h1 h2 => by
        rcases (hm q).1 h1 with ⟨z, hz, rfl⟩ | ⟨z, hz, rfl⟩
        · rcases List.mem_cons.1 hz with e | e
          · exact absurd (by rw [e]) h2
          · exact hx z e
        · exact hyl z hz)
      have ih := mrg_eq pa pb n ts (y :: us) r (by simp at hn ⊢; omega) hA' hB hr (fun p => by
        constructor
        · intro hp
          rcases (hm p).1 (by simp [hp]) with ⟨z, hz, rfl⟩ | h
          · rcases List.mem_cons.1 hz with e | e
            · exact absurd (by rw [e]) (hq _ hp)
            · exact .inl ⟨z, e, rfl⟩
          · exact .inr h
        · rintro (⟨z, hz, rfl⟩ | ⟨z, hz, rfl⟩)
          · rcases List.mem_cons.1 ((hm (pa z)).2 (.inl ⟨z, by simp [hz], rfl⟩)) with e | e
            · exact absurd e.symm (less_ne (hx z hz))
            · exact e
          · rcases List.mem_cons.1 ((hm (pb z)).2 (.inr ⟨z, hz, rfl⟩)) with e | e
            · exact absurd e.symm (less_ne (hyl z hz))
            · exact e)
      rw [ih, List.map_cons]
      congr 1
      · rw [fnd_cons_eq rfl, fnd_none (fun z hz e => less_ne (hyl z hz) e.symm)]
      · refine List.map_congr_left fun p hp => ?_
        rw [fnd_cons_ne (pa := pa) (fun e => hq p hp e.symm)]
    · rw [if_neg hlt]
      by_cases hgt : 0 < Lib.compareBytes (pa x).data.toList (pb y).data.toList
      · rw [if_pos hgt]
        have hxy : Op.bytesLess (pb y).toList (pa x).toList = true := by rw [toList_eq_data, toList_eq_data]; exact compare_pos.1 hgt
        have hxl : ∀ z ∈ x :: ts, Op.bytesLess (pb y).toList (pa z).toList = true := fun z hz => by
          rcases List.mem_cons.1 hz with e | e
          · rw [e]; exact hxy
          · exact less_trans hxy (hx z e)
        obtain ⟨r, rfl, hr, hq⟩ := ascN_head (p := pb y) hN ((hm _).2 (.inr ⟨y, by simp, rfl⟩)) (fun q h1 h2 => by
          rcases (hm q).1 h1 with ⟨z, hz, rfl⟩ | ⟨z, hz, rfl⟩
          · exact hxl z hz
          · rcases List.mem_cons.1 hz with e | e
            · exact absurd (by rw [e]) h2
            · exact hy z e)
        have ih := mrg_eq pa pb n (x :: ts) us r (by simp at hn ⊢; omega) hA hB' hr (fun p => by
          constructor
          · intro hp
            rcases (hm p).1 (by simp [hp]) with h | ⟨z, hz, rfl⟩
            · exact .inl h
            · rcases List.mem_cons.1 hz with e | e
              · exact absurd (by rw [e]) (hq _ hp)
              · exact .inr ⟨z, e, rfl⟩
          · rintro (⟨z, hz, rfl⟩ | ⟨z, hz, rfl⟩)
            · rcases List.mem_cons.1 ((hm (pa z)).2 (.inl ⟨z, hz, rfl⟩)) with e | e
              · exact absurd e.symm (less_ne (hxl z hz))
              · exact e
            · rcases List.mem_cons.1 ((hm (pb z)).2 (.inr ⟨z, by simp [hz], rfl⟩)) with e | e
              · exact absurd e.symm (less_ne (hy z hz))
              · exact e)
        rw [ih, List.map_cons]
        congr 1
        · rw [fnd_cons_eq rfl, fnd_none (fun z hz e => less_ne (hxl z hz) e.symm)]
        · refine List.map_congr_left fun p hp => ?_
          rw [fnd_cons_ne (pa := pb) (fun e => hq p hp e.symm)]
      · rw [if_neg hgt]
        have exy : pa x = pb y := by
          by_cases h : pa x = pb y
          · exact h
          · exfalso
            have h1 : Op.bytesLess (pa x).toList (pb y).toList = false := by
              rw [Bool.eq_false_iff]
              intro e
              rw [toList_eq_data, toList_eq_data] at e
              exact hlt (compare_neg.2 e)
            have h2 := less_of h1 h
            rw [toList_eq_data, toList_eq_data] at h2
            exact hgt (compare_pos.2 h2)
        obtain ⟨r, rfl, hr, hq⟩ := ascN_head (p := pa x) hN ((hm _).2 (.inl ⟨x, by simp, rfl⟩)) (fun q h1 h2 => by
          rcases (hm q).1 h1 with ⟨z, hz, rfl⟩ | ⟨z, hz, rfl⟩
          · rcases List.mem_cons.1 hz with e | e
            · exact absurd (by rw [e]) h2
            · exact hx z e
          · rcases List.mem_cons.1 hz with e | e
            · exact absurd (by rw [e, exy]) h2
            · rw [exy]; exact hy z e)
        have ih := mrg_eq pa pb n ts us r (by simp at hn ⊢; omega) hA' hB' hr (fun p => by
          constructor
          · intro hp
            rcases (hm p).1 (by simp [hp]) with ⟨z, hz, rfl⟩ | ⟨z, hz, rfl⟩
            · rcases List.mem_cons.1 hz with e | e
              · exact absurd (by rw [e]) (hq _ hp)
              · exact .inl ⟨z, e, rfl⟩
            · rcases List.mem_cons.1 hz with e | e
              · exact absurd (by rw [e, exy]) (hq _ hp)
              · exact .inr ⟨z, e, rfl⟩
          · rintro (⟨z, hz, rfl⟩ | ⟨z, hz, rfl⟩)
            · rcases List.mem_cons.1 ((hm (pa z)).2 (.inl ⟨z, by simp [hz], rfl⟩)) with e | e
              · exact absurd e.symm (less_ne (hx z hz))
              · exact e
            · rcases List.mem_cons.1 ((hm (pb z)).2 (.inr ⟨z, by simp [hz], rfl⟩)) with e | e
              · rw [exy] at e; exact absurd e.symm (less_ne (hy z hz))
              · exact e)
        rw [ih, List.map_cons]
        congr 1
        · rw [fnd_cons_eq rfl, fnd_cons_eq exy.symm]
        · refine List.map_congr_left fun p hp => ?_
          rw [fnd_cons_ne (pa := pa) (fun e => hq p hp e.symm), fnd_cons_ne (pa := pb) (fun e => hq p hp (by rw [exy, e]))]
/-- The fronts of two lists held against each other. -/
def frontG {α β : Type} (pa : α → ByteArray) (pb : β → ByteArray) : List α → List β → Int
  | [], _ => 1
  | _ :: _, [] => -1
  | x :: _, y :: _ => Lib.compareBytes (pa x).data.toList (pb y).data.toList
theorem frontG_lt {α β : Type} {pa : α → ByteArray} {pb : β → ByteArray} {f : Nat} {ts : List α} {us : List β} (h : frontG pa pb ts us < 0) : ∃ x tr, ts = x :: tr ∧ mrg pa pb (f + 1) ts us = (pa x, some x, none) :: mrg pa pb f tr us := by
  cases ts with
  | nil => simp [frontG] at h
  | cons x tr =>
    refine ⟨x, tr, rfl, ?_⟩
    cases us with
    | nil => rfl
    | cons y ur =>
      simp only [frontG] at h
      simp only [mrg]
      rw [if_pos h]
theorem frontG_gt {α β : Type} {pa : α → ByteArray} {pb : β → ByteArray} {f : Nat} {ts : List α} {us : List β} (h : 0 < frontG pa pb ts us) (hne : ¬ (ts = [] ∧ us = [])) : ∃ y ur, us = y :: ur ∧ mrg pa pb (f + 1) ts us = (pb y, none, some y) :: mrg pa pb f ts ur := by
  cases us with
  | nil =>
    cases ts with
    | nil => exact absurd ⟨rfl, rfl⟩ hne
    | cons x tr => simp [frontG] at h
  | cons y ur =>
    refine ⟨y, ur, rfl, ?_⟩
    cases ts with
    | nil => rfl
    | cons x tr =>
      simp only [frontG] at h
      simp only [mrg]
      rw [if_neg (by omega), if_pos h]
theorem frontG_eq {α β : Type} {pa : α → ByteArray} {pb : β → ByteArray} {f : Nat} {ts : List α} {us : List β} (h : frontG pa pb ts us = 0) : ∃ x tr y ur, ts = x :: tr ∧ us = y :: ur ∧ mrg pa pb (f + 1) ts us = (pa x, some x, some y) :: mrg pa pb f tr ur := by
  cases ts with
  | nil => simp [frontG] at h
  | cons x tr =>
    cases us with
    | nil => simp [frontG] at h
    | cons y ur =>
      refine ⟨x, tr, y, ur, rfl, rfl, ?_⟩
      simp only [frontG] at h
      simp only [mrg]
      rw [if_neg (by omega), if_neg (by omega)]
theorem drop_cons {α : Type} {ts : List α} {p : Nat} {x : α} {tr : List α} (h : ts.drop p = x :: tr) : ∃ hp : p < ts.length, ts[p] = x ∧ ts.drop (p + 1) = tr := by
  have hp : p < ts.length := by
    rcases Nat.lt_or_ge p ts.length with h1 | h1
    · exact h1
    · rw [List.drop_of_length_le h1] at h; cases h
  rw [List.drop_eq_getElem_cons hp] at h
  injection h with h1 h2
  exact ⟨hp, h1, h2⟩
end Go.Proofs.Ytjlflmbifeocbaa

namespace Go.Proofs.Ytjlflmbifeocbaa
open Go.RowKit

set_option maxRecDepth 100000 in
theorem mp_c (x : Value) (w : World) : (method 245 68 x "loop.example/kilntree/impl.path").run Try.prog w = .ok (111, x) w := by kernel_rfl
set_option maxRecDepth 100000 in
theorem cp_c (x : Value) (w : World) : (callFunc 111 #[x]).run Try.prog w = .ok (.enter 111 #[x]) w := by kernel_rfl

theorem pathC_any (c : Ch) (w : World) : Calls Try.prog 111 #[.agg #[.string c.path, .bool c.old.there, .string c.old.text, .bool c.old.runs, .bool c.new.there, .string c.new.text, .bool c.new.runs]] w fun r w' => r = .returned (.string c.path) ∧ Below w.heap.size w w' := by
  go_enter Try.func111, Try.ntmps111
  go_wp2
  go_ret
  exact ⟨rfl, (Below.refl _ _).alloc (Nat.le_refl _) _⟩
end Go.Proofs.Ytjlflmbifeocbaa

namespace Go.Proofs.Ytjlflmbifeocbaa
open Go.RowKit

set_option maxRecDepth 100000 in
set_option maxHeartbeats 4000000 in
theorem frontsC_any (a b : Option Addr) (ca cb : Nat) (ts : List Ch) (us : List Ch) (w : World) (hts : CS w a ts) (hus : CS w b us) :
    Calls Try.prog 64 #[.slice a ts.length ca, .slice b us.length cb] w fun e w' => e = .returned (.int .i64 (frontG Ch.path Ch.path ts us)) ∧ Below w.heap.size w w' := by
  cases ts with
  | nil =>
    go_enter Try.func64, Try.ntmps64
    go_wp2
    go_ret
    exact ⟨rfl, Below.refl _ _⟩
  | cons x ts =>
    obtain ⟨b1, o1, rfl, hc1⟩ := hts.at (k := 0) (by simp)
    obtain ⟨x0, x1, x2, x3, x4, x5, x6⟩ := hc1 0 (by simp)
    simp only [List.getElem_cons_zero, Nat.zero_mul, Nat.add_zero] at x0 x1 x2 x3 x4 x5 x6
    have hl1 : (((x :: ts).length : Int) == 0) = false := by simp; omega
    have hl1' : (0 : Int) < (x :: ts).length := by rw [List.length_cons]; omega
    clear hc1 hts
    cases us with
    | nil =>
      generalize (x :: ts).length = n1 at *
      go_enter Try.func64, Try.ntmps64
      go_wp2
      go_ret
      exact ⟨rfl, Below.refl _ _⟩
    | cons y us =>
      obtain ⟨b2, o2, rfl, hc2⟩ := hus.at (k := 0) (by simp)
      obtain ⟨y0, y1, y2, y3, y4, y5, y6⟩ := hc2 0 (by simp)
      simp only [List.getElem_cons_zero, Nat.zero_mul, Nat.add_zero] at y0 y1 y2 y3 y4 y5 y6
      have hl2 : (((y :: us).length : Int) == 0) = false := by simp; omega
      have hl2' : (0 : Int) < (y :: us).length := by rw [List.length_cons]; omega
      clear hc2 hus
      generalize (x :: ts).length = n1 at *
      generalize (y :: us).length = n2 at *
      have cx0 : ∀ z : Later w, z.world.cell? ⟨b1, o1, none⟩ = some (.string x.path) := fun z => cell_later z.kept x0
      have cx1 : ∀ z : Later w, z.world.cell? ⟨b1, o1 + 1, none⟩ = some (.bool x.old.there) := fun z => cell_later z.kept x1
      have cx2 : ∀ z : Later w, z.world.cell? ⟨b1, o1 + 2, none⟩ = some (.string x.old.text) := fun z => cell_later z.kept x2
      have cx3 : ∀ z : Later w, z.world.cell? ⟨b1, o1 + 3, none⟩ = some (.bool x.old.runs) := fun z => cell_later z.kept x3
      have cx4 : ∀ z : Later w, z.world.cell? ⟨b1, o1 + 4, none⟩ = some (.bool x.new.there) := fun z => cell_later z.kept x4
      have cx5 : ∀ z : Later w, z.world.cell? ⟨b1, o1 + 5, none⟩ = some (.string x.new.text) := fun z => cell_later z.kept x5
      have cx6 : ∀ z : Later w, z.world.cell? ⟨b1, o1 + 6, none⟩ = some (.bool x.new.runs) := fun z => cell_later z.kept x6
      have cy0 : ∀ z : Later w, z.world.cell? ⟨b2, o2, none⟩ = some (.string y.path) := fun z => cell_later z.kept y0
      have cy1 : ∀ z : Later w, z.world.cell? ⟨b2, o2 + 1, none⟩ = some (.bool y.old.there) := fun z => cell_later z.kept y1
      have cy2 : ∀ z : Later w, z.world.cell? ⟨b2, o2 + 2, none⟩ = some (.string y.old.text) := fun z => cell_later z.kept y2
      have cy3 : ∀ z : Later w, z.world.cell? ⟨b2, o2 + 3, none⟩ = some (.bool y.old.runs) := fun z => cell_later z.kept y3
      have cy4 : ∀ z : Later w, z.world.cell? ⟨b2, o2 + 4, none⟩ = some (.bool y.new.there) := fun z => cell_later z.kept y4
      have cy5 : ∀ z : Later w, z.world.cell? ⟨b2, o2 + 5, none⟩ = some (.string y.new.text) := fun z => cell_later z.kept y5
      have cy6 : ∀ z : Later w, z.world.cell? ⟨b2, o2 + 6, none⟩ = some (.bool y.new.runs) := fun z => cell_later z.kept y6
      have HC1 : Keep (∀ z : Later w, Calls Try.prog 111 #[.agg #[.string x.path, .bool x.old.there, .string x.old.text, .bool x.old.runs, .bool x.new.there, .string x.new.text, .bool x.new.runs]] z.world fun e w'' => e = .returned (.string x.path) ∧ ∃ q : Later w, w'' = q.world) := ⟨fun z => Later.call z (pathC_any x _)⟩
      have HC2 : Keep (∀ z : Later w, Calls Try.prog 111 #[.agg #[.string y.path, .bool y.old.there, .string y.old.text, .bool y.old.runs, .bool y.new.there, .string y.new.text, .bool y.new.runs]] z.world fun e w'' => e = .returned (.string y.path) ∧ ∃ q : Later w, w'' = q.world) := ⟨fun z => Later.call z (pathC_any y _)⟩
      have HC3 : Keep (∀ z : Later w, Calls Try.prog 71 #[.string x.path, .string y.path] z.world fun e w'' => e = .returned (.int .i64 (Lib.compareBytes x.path.data.toList y.path.data.toList)) ∧ ∃ q : Later w, w'' = q.world) := ⟨fun z => Later.call z ((compare_any x.path y.path z.world).mono (fun e w' h => ⟨h.1, by rw [h.2]; exact Below.refl _ _⟩))⟩
      have HCM : Keep (frontG Ch.path Ch.path (x :: ts) (y :: us) = Lib.compareBytes x.path.data.toList y.path.data.toList) := ⟨rfl⟩
      clear x0 x1 x2 x3 x4 x5 x6 y0 y1 y2 y3 y4 y5 y6
      have hmp := mp_c
      have hcp := cp_c
      go_enter Try.func64, Try.ntmps64
      go_upto_region 5 with fail
      (haveI := later_any; refine wp_region_later (by kernel_rfl) (by kernel_rfl) ?_; (repeat (go_big_quiet_step (first | (go_at_call_of 111 ([Value.agg #[.string x.path, .bool x.old.there, .string x.old.text, .bool x.old.runs, .bool x.new.there, .string x.new.text, .bool x.new.runs]] : List Value); exact HC1.out _) | (go_at_call_of 111 ([Value.agg #[.string y.path, .bool y.old.there, .string y.old.text, .bool y.old.runs, .bool y.new.there, .string y.new.text, .bool y.new.runs]] : List Value); exact HC2.out _) | (go_at_call 71; exact HC3.out _)))); refine wpQuiet_nil ?_; intro _ hwq; obtain ⟨xq, hwq2⟩ := hwq; subst hwq2)
      go_wp2
      go_ret
      exact ⟨by rw [HCM.out]; rfl, xq.kept⟩
end Go.Proofs.Ytjlflmbifeocbaa

namespace Go.Proofs.Ytjlflmbifeocbaa
open Go.RowKit

/-- The change that is nothing. -/
def noCh : Ch := ⟨⟨#[]⟩, ⟨false, ⟨#[]⟩, false⟩, ⟨false, ⟨#[]⟩, false⟩⟩
def cutCV (c : Ch) : Value := .agg #[.string c.path, .bool c.old.there, .string c.old.text, .bool c.old.runs, .bool c.new.there, .string c.new.text, .bool c.new.runs]

set_option maxRecDepth 100000 in
theorem cutC (a : Option Addr) (cp : Nat) (ts : List Ch) (k : Nat) (hk : k ≤ ts.length) (hc : ts.length ≤ cp) : ∃ ad' c', (∀ w1, (Instr.sliceAt 28 (.slice a ts.length cp) (some (.int .i64 (k : Int))) none none).run Try.prog w1 = .ok (.slice ad' (ts.drop k).length c') w1) ∧ ∀ W, CS W a ts → CS W ad' (ts.drop k) := by
  have hrun : ∀ w1, (Instr.sliceAt 28 (.slice a ts.length cp) (some (.int .i64 (k : Int))) none none).run Try.prog w1 = .ok (sliced a k ts.length cp 7) w1 := fun w1 => by
    rw [run_sliceAt_slice w1 _ _ _ _ _ Try.underlying28, run_slice_l w1 _ _ _ _ Try.underlying28 .i64 (k : Int) (by omega) (by omega)]
    have hz : (sizeOf (Try.prog.elem 28)).run Try.prog w1 = .ok 7 w1 := by kernel_rfl
    rw [hz, show (k : Int).toNat = k by omega]
    rfl
  refine ⟨if cp = k then a else a.map (·.add (k * 7)), cp - k, fun w1 => by rw [hrun w1, List.length_drop]; rfl, fun W hE => ?_⟩
  rcases hE with h | ⟨b, off, rfl, hcl⟩
  · subst h; exact .inl (by simp)
  · by_cases hl : k = ts.length
    · subst hl; exact .inl (by simp)
    · rw [if_neg (by omega)]
      refine .inr ⟨b, off + k * 7, by rw [Option.map_some, WideShapes.add_plain], fun i hi => ?_⟩
      rw [List.length_drop] at hi
      have c0 := hcl (k + i) (by omega)
      rw [List.getElem_drop]
      rw [show off + k * 7 + i * 7 = off + (k + i) * 7 by omega]
      exact c0

theorem CS.cells {w : World} {b off : Nat} {ts : List Ch} (h : CS w (some ⟨b, off, none⟩) ts) {k : Nat} (hk : k < ts.length) : ChAt w b (off + k * 7) ts[k] := by
  obtain ⟨b', o', ha, hc⟩ := h.at hk
  simp only [Option.some.injEq, Addr.mk.injEq, and_true] at ha
  obtain ⟨rfl, rfl⟩ := ha
  exact hc k hk

theorem box7_set {X : World} {g : Nat} {u0 u1 u2 u3 u4 u5 u6 : Value} (v0 v1 v2 v3 v4 v5 v6 : Value) (h0 : X.cell? ⟨g, 0, none⟩ = some u0) (h1 : X.cell? ⟨g, 1, none⟩ = some u1) (h2 : X.cell? ⟨g, 2, none⟩ = some u2) (h3 : X.cell? ⟨g, 3, none⟩ = some u3) (h4 : X.cell? ⟨g, 4, none⟩ = some u4) (h5 : X.cell? ⟨g, 5, none⟩ = some u5) (h6 : X.cell? ⟨g, 6, none⟩ = some u6) :
    (((((((X.setCell ⟨g, 0, none⟩ v0).setCell ⟨g, 1, none⟩ v1).setCell ⟨g, 2, none⟩ v2).setCell ⟨g, 3, none⟩ v3).setCell ⟨g, 4, none⟩ v4).setCell ⟨g, 5, none⟩ v5).setCell ⟨g, 6, none⟩ v6).cell? ⟨g, 0, none⟩ = some v0 ∧ (((((((X.setCell ⟨g, 0, none⟩ v0).setCell ⟨g, 1, none⟩ v1).setCell ⟨g, 2, none⟩ v2).setCell ⟨g, 3, none⟩ v3).setCell ⟨g, 4, none⟩ v4).setCell ⟨g, 5, none⟩ v5).setCell ⟨g, 6, none⟩ v6).cell? ⟨g, 1, none⟩ = some v1 ∧ (((((((X.setCell ⟨g, 0, none⟩ v0).setCell ⟨g, 1, none⟩ v1).setCell ⟨g, 2, none⟩ v2).setCell ⟨g, 3, none⟩ v3).setCell ⟨g, 4, none⟩ v4).setCell ⟨g, 5, none⟩ v5).setCell ⟨g, 6, none⟩ v6).cell? ⟨g, 2, none⟩ = some v2 ∧ (((((((X.setCell ⟨g, 0, none⟩ v0).setCell ⟨g, 1, none⟩ v1).setCell ⟨g, 2, none⟩ v2).setCell ⟨g, 3, none⟩ v3).setCell ⟨g, 4, none⟩ v4).setCell ⟨g, 5, none⟩ v5).setCell ⟨g, 6, none⟩ v6).cell? ⟨g, 3, none⟩ = some v3 ∧ (((((((X.setCell ⟨g, 0, none⟩ v0).setCell ⟨g, 1, none⟩ v1).setCell ⟨g, 2, none⟩ v2).setCell ⟨g, 3, none⟩ v3).setCell ⟨g, 4, none⟩ v4).setCell ⟨g, 5, none⟩ v5).setCell ⟨g, 6, none⟩ v6).cell? ⟨g, 4, none⟩ = some v4 ∧ (((((((X.setCell ⟨g, 0, none⟩ v0).setCell ⟨g, 1, none⟩ v1).setCell ⟨g, 2, none⟩ v2).setCell ⟨g, 3, none⟩ v3).setCell ⟨g, 4, none⟩ v4).setCell ⟨g, 5, none⟩ v5).setCell ⟨g, 6, none⟩ v6).cell? ⟨g, 5, none⟩ = some v5 ∧ (((((((X.setCell ⟨g, 0, none⟩ v0).setCell ⟨g, 1, none⟩ v1).setCell ⟨g, 2, none⟩ v2).setCell ⟨g, 3, none⟩ v3).setCell ⟨g, 4, none⟩ v4).setCell ⟨g, 5, none⟩ v5).setCell ⟨g, 6, none⟩ v6).cell? ⟨g, 6, none⟩ = some v6 := by
  refine ⟨?_, ?_, ?_, ?_, ?_, ?_, ?_⟩
  · rw [World.cell?_setCell_other _ _ _ _ (by simp), World.cell?_setCell_other _ _ _ _ (by simp), World.cell?_setCell_other _ _ _ _ (by simp), World.cell?_setCell_other _ _ _ _ (by simp), World.cell?_setCell_other _ _ _ _ (by simp), World.cell?_setCell_other _ _ _ _ (by simp)]; exact World.cell?_setCell_same _ _ _ h0
  · rw [World.cell?_setCell_other _ _ _ _ (by simp), World.cell?_setCell_other _ _ _ _ (by simp), World.cell?_setCell_other _ _ _ _ (by simp), World.cell?_setCell_other _ _ _ _ (by simp), World.cell?_setCell_other _ _ _ _ (by simp)]; exact World.cell?_setCell_same _ _ _ ((World.cell?_setCell_other _ _ _ _ (by simp)).trans h1)
  · rw [World.cell?_setCell_other _ _ _ _ (by simp), World.cell?_setCell_other _ _ _ _ (by simp), World.cell?_setCell_other _ _ _ _ (by simp), World.cell?_setCell_other _ _ _ _ (by simp)]; exact World.cell?_setCell_same _ _ _ ((World.cell?_setCell_other _ _ _ _ (by simp)).trans ((World.cell?_setCell_other _ _ _ _ (by simp)).trans h2))
  · rw [World.cell?_setCell_other _ _ _ _ (by simp), World.cell?_setCell_other _ _ _ _ (by simp), World.cell?_setCell_other _ _ _ _ (by simp)]; exact World.cell?_setCell_same _ _ _ ((World.cell?_setCell_other _ _ _ _ (by simp)).trans ((World.cell?_setCell_other _ _ _ _ (by simp)).trans ((World.cell?_setCell_other _ _ _ _ (by simp)).trans h3)))
  · rw [World.cell?_setCell_other _ _ _ _ (by simp), World.cell?_setCell_other _ _ _ _ (by simp)]; exact World.cell?_setCell_same _ _ _ ((World.cell?_setCell_other _ _ _ _ (by simp)).trans ((World.cell?_setCell_other _ _ _ _ (by simp)).trans ((World.cell?_setCell_other _ _ _ _ (by simp)).trans ((World.cell?_setCell_other _ _ _ _ (by simp)).trans h4))))
  · rw [World.cell?_setCell_other _ _ _ _ (by simp)]; exact World.cell?_setCell_same _ _ _ ((World.cell?_setCell_other _ _ _ _ (by simp)).trans ((World.cell?_setCell_other _ _ _ _ (by simp)).trans ((World.cell?_setCell_other _ _ _ _ (by simp)).trans ((World.cell?_setCell_other _ _ _ _ (by simp)).trans ((World.cell?_setCell_other _ _ _ _ (by simp)).trans h5)))))
  · exact World.cell?_setCell_same _ _ _ ((World.cell?_setCell_other _ _ _ _ (by simp)).trans ((World.cell?_setCell_other _ _ _ _ (by simp)).trans ((World.cell?_setCell_other _ _ _ _ (by simp)).trans ((World.cell?_setCell_other _ _ _ _ (by simp)).trans ((World.cell?_setCell_other _ _ _ _ (by simp)).trans ((World.cell?_setCell_other _ _ _ _ (by simp)).trans h6))))))
theorem box7_other {X : World} {g h j : Nat} (v0 v1 v2 v3 v4 v5 v6 : Value) (hn : ¬ g = h) : (((((((X.setCell ⟨g, 0, none⟩ v0).setCell ⟨g, 1, none⟩ v1).setCell ⟨g, 2, none⟩ v2).setCell ⟨g, 3, none⟩ v3).setCell ⟨g, 4, none⟩ v4).setCell ⟨g, 5, none⟩ v5).setCell ⟨g, 6, none⟩ v6).cell? ⟨h, j, none⟩ = X.cell? ⟨h, j, none⟩ := by
  have hne : ∀ k, (⟨g, k, none⟩ : Addr) ≠ ⟨h, j, none⟩ := fun k e => hn (congrArg Addr.block e)
  rw [World.cell?_setCell_other _ _ _ _ (hne _), World.cell?_setCell_other _ _ _ _ (hne _), World.cell?_setCell_other _ _ _ _ (hne _), World.cell?_setCell_other _ _ _ _ (hne _), World.cell?_setCell_other _ _ _ _ (hne _), World.cell?_setCell_other _ _ _ _ (hne _), World.cell?_setCell_other _ _ _ _ (hne _)]
theorem box7_below {w X : World} {g : Nat} (v0 v1 v2 v3 v4 v5 v6 : Value) (hX : Below w.heap.size w X) (hg : w.heap.size ≤ g) : Below w.heap.size w (((((((X.setCell ⟨g, 0, none⟩ v0).setCell ⟨g, 1, none⟩ v1).setCell ⟨g, 2, none⟩ v2).setCell ⟨g, 3, none⟩ v3).setCell ⟨g, 4, none⟩ v4).setCell ⟨g, 5, none⟩ v5).setCell ⟨g, 6, none⟩ v6) :=
  (((((((hX.setCell (p := ⟨g, 0, none⟩) hg _).setCell (p := ⟨g, 1, none⟩) hg _).setCell (p := ⟨g, 2, none⟩) hg _).setCell (p := ⟨g, 3, none⟩) hg _).setCell (p := ⟨g, 4, none⟩) hg _).setCell (p := ⟨g, 5, none⟩) hg _).setCell (p := ⟨g, 6, none⟩) hg _)
theorem box7_fz {X : World} {g : Nat} {p : Addr} (v0 v1 v2 v3 v4 v5 v6 : Value) : (((((((X.setCell ⟨g, 0, none⟩ v0).setCell ⟨g, 1, none⟩ v1).setCell ⟨g, 2, none⟩ v2).setCell ⟨g, 3, none⟩ v3).setCell ⟨g, 4, none⟩ v4).setCell ⟨g, 5, none⟩ v5).setCell ⟨g, 6, none⟩ v6).frozen? p = X.frozen? p := by
  rw [World.frozen?_setCell, World.frozen?_setCell, World.frozen?_setCell, World.frozen?_setCell, World.frozen?_setCell, World.frozen?_setCell, World.frozen?_setCell]
end Go.Proofs.Ytjlflmbifeocbaa

namespace Go.Proofs.Ytjlflmbifeocbaa
open Go.RowKit Go.Shelf

attribute [local go_sem] Oper.semAt_some

abbrev PC : Type := ByteArray × Option Ch × Option Ch
def yC (x : PC) : Array Value := #[cutCV (x.2.1.getD noCh), cutCV (x.2.2.getD noCh)]

theorem two_boxesC {w A X : World} {t t2 : TypeId} (hA : A = (w.alloc (.cells #[.string ⟨#[]⟩, .bool false, .string ⟨#[]⟩, .bool false, .bool false, .string ⟨#[]⟩, .bool false] t)).alloc (.cells #[.string ⟨#[]⟩, .bool false, .string ⟨#[]⟩, .bool false, .bool false, .string ⟨#[]⟩, .bool false] t2)) (hb : Below A.heap.size A X) :
    (X.cell? ⟨w.heap.size, 0, none⟩ = some (.string ⟨#[]⟩) ∧ X.cell? ⟨w.heap.size, 1, none⟩ = some (.bool false) ∧ X.cell? ⟨w.heap.size, 2, none⟩ = some (.string ⟨#[]⟩) ∧ X.cell? ⟨w.heap.size, 3, none⟩ = some (.bool false) ∧ X.cell? ⟨w.heap.size, 4, none⟩ = some (.bool false) ∧ X.cell? ⟨w.heap.size, 5, none⟩ = some (.string ⟨#[]⟩) ∧ X.cell? ⟨w.heap.size, 6, none⟩ = some (.bool false)) ∧ (X.cell? ⟨w.heap.size + 1, 0, none⟩ = some (.string ⟨#[]⟩) ∧ X.cell? ⟨w.heap.size + 1, 1, none⟩ = some (.bool false) ∧ X.cell? ⟨w.heap.size + 1, 2, none⟩ = some (.string ⟨#[]⟩) ∧ X.cell? ⟨w.heap.size + 1, 3, none⟩ = some (.bool false) ∧ X.cell? ⟨w.heap.size + 1, 4, none⟩ = some (.bool false) ∧ X.cell? ⟨w.heap.size + 1, 5, none⟩ = some (.string ⟨#[]⟩) ∧ X.cell? ⟨w.heap.size + 1, 6, none⟩ = some (.bool false)) ∧ (∀ j, X.frozen? ⟨w.heap.size, j, none⟩ = false) ∧ ∀ j, X.frozen? ⟨w.heap.size + 1, j, none⟩ = false := by
  have hl : w.heap.size + 1 < A.heap.size := by rw [hA]; simp
  refine ⟨⟨cell_later hb (by rw [hA]; simp [go_sem]), cell_later hb (by rw [hA]; simp [go_sem]), cell_later hb (by rw [hA]; simp [go_sem]), cell_later hb (by rw [hA]; simp [go_sem]), cell_later hb (by rw [hA]; simp [go_sem]), cell_later hb (by rw [hA]; simp [go_sem]), cell_later hb (by rw [hA]; simp [go_sem])⟩, ⟨cell_later hb (by rw [hA]; simp [go_sem]), cell_later hb (by rw [hA]; simp [go_sem]), cell_later hb (by rw [hA]; simp [go_sem]), cell_later hb (by rw [hA]; simp [go_sem]), cell_later hb (by rw [hA]; simp [go_sem]), cell_later hb (by rw [hA]; simp [go_sem]), cell_later hb (by rw [hA]; simp [go_sem])⟩, fun j => ?_, fun j => ?_⟩
  · exact (hb.frozen (p := ⟨w.heap.size, j, none⟩) (by show w.heap.size < _; omega)).trans (by rw [hA]; simp [go_sem])
  · exact (hb.frozen (p := ⟨w.heap.size + 1, j, none⟩) (by show w.heap.size + 1 < _; omega)).trans (by rw [hA]; simp [go_sem])

def sideMemC (Ba Bb : Nat) (a b : Option Addr) (ca cb : Nat) (ts : List Ch) (us : List Ch) (W : World) : Prop :=
  W.cell? ⟨Ba, 0, none⟩ = some (.slice a ts.length ca) ∧ W.cell? ⟨Bb, 0, none⟩ = some (.slice b us.length cb) ∧ CS W a ts ∧ CS W b us

def mrgC (ts : List Ch) (us : List Ch) : List PC := mrg Ch.path Ch.path (ts.length + us.length) ts us

set_option maxRecDepth 100000 in
set_option maxHeartbeats 8000000 in
theorem sideC1_in (n l Ba Bb : Nat) (a b : Option Addr) (ca cb : Nat) (ts : List Ch) (us : List Ch) (hca : ts.length ≤ ca) (hcb : us.length ≤ cb) (hnt : ts.length ≤ 1048576) (hnu : us.length ≤ 1048576)
    (J Jx : List PC → World → Prop) (W : World)
    (hM : ∀ pre W1, J pre W1 → sideMemC Ba Bb a b ca cb ts us W1)
    (hJ : ∀ pre W1 W2, J pre W1 → Below W1.heap.size W1 W2 → J pre W2)
    (hY : ∀ pre x W1, J pre W1 → (∃ r, mrgC ts us = (pre ++ [x]) ++ r) → YieldAt Fence.wide (n - 1) Try.prog l (yC x) W1 fun e W' =>
      (e = .returned (.bool true) ∧ J (pre ++ [x]) W') ∨ (e = .returned (.bool false) ∧ Jx (pre ++ [x]) W'))
    (h0 : J [] W) :
    CallsIn Fence.wide n Try.prog 63 #[.func (.yield l) #[] #[], .pointer (some ⟨Ba, 0, none⟩), .pointer (some ⟨Bb, 0, none⟩)] W fun e W' => (∃ v, e = .returned v) ∧
      (J (mrgC ts us) W' ∨ (∃ pre, pre <+: mrgC ts us ∧ Jx pre W')) := by
  refine callsIn_of_wp Try.func63 rfl trivial ?_ rfl
  simp only [Try.ntmps63, List.size_toArray, List.length_cons, List.length_nil, Nat.reduceAdd, Nat.reduceSub, Array.replicate_succ, Array.replicate_zero, List.push_toArray, List.append_toArray, List.nil_append, List.cons_append]
  gi_wp2
  gi_loopw [4, 5] (fun i j wr => ∃ (p q f : Nat) (pre : List PC), i = .int .i64 p ∧ j = .int .i64 q ∧ p ≤ ts.length ∧ q ≤ us.length ∧ (ts.length - p) + (us.length - q) ≤ f ∧ mrgC ts us = pre ++ mrg Ch.path Ch.path f (ts.drop p) (us.drop q) ∧ J pre wr)
    (fun i j _ => (ts.length - (intOf i).toNat) + (us.length - (intOf j).toNat))
  case atStart => exact ⟨0, 0, ts.length + us.length, [], rfl, rfl, Nat.zero_le _, Nat.zero_le _, by omega, by simp [mrgC], h0⟩
  case round =>
    obtain ⟨p, q, f, pre, rfl, rfl, hp, hq, hf, hm, hJs⟩ := hrel
    obtain ⟨m1, m2, e1, e2⟩ := hM pre wr hJs
    by_cases hend : p = ts.length ∧ q = us.length
    · obtain ⟨rfl, rfl⟩ := hend
      have hE : mrgC ts us = pre := by
        rw [hm]
        cases f with
        | zero => simp [mrg]
        | succ f => simp [mrg]
      gi_wp2
      go_end0
      exact ⟨⟨_, rfl⟩, .inl (by rw [hE]; exact hJs)⟩
    · obtain ⟨ad1, c1, hs1, hes1⟩ := cutC a ca ts p hp hca
      obtain ⟨ad2, c2, hs2, hes2⟩ := cutC b cb us q hq hcb
      have hal : Below wr.heap.size wr ((wr.alloc (.cells #[.string ⟨#[]⟩, .bool false, .string ⟨#[]⟩, .bool false, .bool false, .string ⟨#[]⟩, .bool false] 68)).alloc (.cells #[.string ⟨#[]⟩, .bool false, .string ⟨#[]⟩, .bool false, .bool false, .string ⟨#[]⟩, .bool false] 68)) := ((Below.refl _ _).alloc (Nat.le_refl _) _).alloc (by simp) _
      obtain ⟨A, hA⟩ : ∃ A, A = (wr.alloc (.cells #[.string ⟨#[]⟩, .bool false, .string ⟨#[]⟩, .bool false, .bool false, .string ⟨#[]⟩, .bool false] 68)).alloc (.cells #[.string ⟨#[]⟩, .bool false, .string ⟨#[]⟩, .bool false, .bool false, .string ⟨#[]⟩, .bool false] 68) := ⟨_, rfl⟩
      rw [← hA] at hal
      have cm1 : ∀ z : Later A, z.world.cell? ⟨Ba, 0, none⟩ = some (.slice a ts.length ca) := fun z => cell_later z.kept (cell_later hal m1)
      have cm2 : ∀ z : Later A, z.world.cell? ⟨Bb, 0, none⟩ = some (.slice b us.length cb) := fun z => cell_later z.kept (cell_later hal m2)
      have HF : Keep (∀ z : Later A, Calls Try.prog 64 #[.slice ad1 (ts.drop p).length c1, .slice ad2 (us.drop q).length c2] z.world fun e w'' => e = .returned (.int .i64 (frontG Ch.path Ch.path (ts.drop p) (us.drop q))) ∧ ∃ y : Later A, w'' = y.world) := ⟨fun z => Later.call z (frontsC_any ad1 ad2 c1 c2 (ts.drop p) (us.drop q) z.world (hes1 _ ((e1.below hal).below z.kept)) (hes2 _ ((e2.below hal).below z.kept)))⟩
      generalize hda : (ts.drop p).length = na at hs1 HF
      generalize hdb : (us.drop q).length = nb at hs2 HF
      obtain ⟨f, rfl⟩ : ∃ f', f = f' + 1 := ⟨f - 1, by omega⟩
      have hnn : ¬ (ts.drop p = [] ∧ us.drop q = []) := fun h => hend ⟨by have := congrArg List.length h.1; simp at this; omega, by have := congrArg List.length h.2; simp at this; omega⟩
      generalize ho : frontG Ch.path Ch.path (ts.drop p) (us.drop q) = o at HF
      rcases Int.lt_trichotomy o 0 with hlt | heq | hgt
      · obtain ⟨x, tr, hd, hmr⟩ := frontG_lt (f := f) (by rw [ho]; exact hlt)
        obtain ⟨hpl, rfl, rfl⟩ := drop_cons hd
        rw [hmr] at hm
        rw [List.append_cons] at hm
        obtain ⟨b1, o1, rfl, hc1⟩ := e1.at hpl
        have hpl' : (p : Int) < ts.length := by omega
        have ho1 : o ≤ 0 := by omega
        have ho2 : ¬ 0 ≤ o := by omega
        clear hc1 hd hmr hnn ho hend hlt
        gi_wp2
        rw [← hA]
        refine wpIn_wide.2 ?_
        (haveI := later_any; refine wp_region_later (by kernel_rfl) (by kernel_rfl) ?_; (repeat (go_big_quiet_step (first | (go_at_call 64; exact HF.out _)))); refine wpQuiet_nil ?_; intro _ hwq; obtain ⟨xq, hwq2⟩ := hwq; subst hwq2)
        have hX := hal.trans (xq.kept.mono hal.size)
        obtain ⟨⟨b60, b61, b62, b63, b64, b65, b66⟩, ⟨b70, b71, b72, b73, b74, b75, b76⟩, f6, f7⟩ := two_boxesC hA xq.kept
        have HE1 : Keep (CS wr (some ⟨b1, o1, none⟩) ts) := ⟨e1⟩
        have HE2 : Keep (CS wr b us) := ⟨e2⟩
        have HM1 : Keep (wr.cell? ⟨Ba, 0, none⟩ = some (.slice (some ⟨b1, o1, none⟩) ts.length ca)) := ⟨m1⟩
        have HM2 : Keep (wr.cell? ⟨Bb, 0, none⟩ = some (.slice b us.length cb)) := ⟨m2⟩
        clear hs1 hs2 hes1 hes2 HF cm1 cm2 e1 e2 m1 m2 hA hal
        generalize xq.world = X at *
        clear xq
        obtain ⟨g6, hg6⟩ : ∃ g, g = wr.heap.size := ⟨_, rfl⟩
        obtain ⟨g7, hg7⟩ : ∃ g, g = wr.heap.size + 1 := ⟨_, rfl⟩
        rw [← hg7] at b70 b71 b72 b73 b74 b75 b76 f7 ⊢
        rw [← hg6] at b60 b61 b62 b63 b64 b65 b66 f6 ⊢
        have hn67 : ¬ g6 = g7 := by omega
        have HG : Keep (wr.heap.size ≤ g6 ∧ wr.heap.size ≤ g7) := ⟨by omega⟩
        clear hg6 hg7
        have q1 := cell_later hX HM1.out
        obtain ⟨x0, x1, x2, x3, x4, x5, x6⟩ := (HE1.out.below hX).cells hpl
        gi_upto_region 8 with fail
        replace hX := box7_below (.string ts[p].path) (.bool ts[p].old.there) (.string ts[p].old.text) (.bool ts[p].old.runs) (.bool ts[p].new.there) (.string ts[p].new.text) (.bool ts[p].new.runs) hX HG.out.1
        obtain ⟨z0, z1, z2, z3, z4, z5, z6⟩ := box7_set (.string ts[p].path) (.bool ts[p].old.there) (.string ts[p].old.text) (.bool ts[p].old.runs) (.bool ts[p].new.there) (.string ts[p].new.text) (.bool ts[p].new.runs) b60 b61 b62 b63 b64 b65 b66
        replace b70 := (box7_other (.string ts[p].path) (.bool ts[p].old.there) (.string ts[p].old.text) (.bool ts[p].old.runs) (.bool ts[p].new.there) (.string ts[p].new.text) (.bool ts[p].new.runs) hn67).trans b70
        replace b71 := (box7_other (.string ts[p].path) (.bool ts[p].old.there) (.string ts[p].old.text) (.bool ts[p].old.runs) (.bool ts[p].new.there) (.string ts[p].new.text) (.bool ts[p].new.runs) hn67).trans b71
        replace b72 := (box7_other (.string ts[p].path) (.bool ts[p].old.there) (.string ts[p].old.text) (.bool ts[p].old.runs) (.bool ts[p].new.there) (.string ts[p].new.text) (.bool ts[p].new.runs) hn67).trans b72
        replace b73 := (box7_other (.string ts[p].path) (.bool ts[p].old.there) (.string ts[p].old.text) (.bool ts[p].old.runs) (.bool ts[p].new.there) (.string ts[p].new.text) (.bool ts[p].new.runs) hn67).trans b73
        replace b74 := (box7_other (.string ts[p].path) (.bool ts[p].old.there) (.string ts[p].old.text) (.bool ts[p].old.runs) (.bool ts[p].new.there) (.string ts[p].new.text) (.bool ts[p].new.runs) hn67).trans b74
        replace b75 := (box7_other (.string ts[p].path) (.bool ts[p].old.there) (.string ts[p].old.text) (.bool ts[p].old.runs) (.bool ts[p].new.there) (.string ts[p].new.text) (.bool ts[p].new.runs) hn67).trans b75
        replace b76 := (box7_other (.string ts[p].path) (.bool ts[p].old.there) (.string ts[p].old.text) (.bool ts[p].old.runs) (.bool ts[p].new.there) (.string ts[p].new.text) (.bool ts[p].new.runs) hn67).trans b76
        replace f7 : ∀ j, (((((((X.setCell ⟨g6, 0, none⟩ (.string ts[p].path)).setCell ⟨g6, 1, none⟩ (.bool ts[p].old.there)).setCell ⟨g6, 2, none⟩ (.string ts[p].old.text)).setCell ⟨g6, 3, none⟩ (.bool ts[p].old.runs)).setCell ⟨g6, 4, none⟩ (.bool ts[p].new.there)).setCell ⟨g6, 5, none⟩ (.string ts[p].new.text)).setCell ⟨g6, 6, none⟩ (.bool ts[p].new.runs)).frozen? ⟨g7, j, none⟩ = false := fun j => (box7_fz (.string ts[p].path) (.bool ts[p].old.there) (.string ts[p].old.text) (.bool ts[p].old.runs) (.bool ts[p].new.there) (.string ts[p].new.text) (.bool ts[p].new.runs)).trans (f7 j)
        clear b60 b61 b62 b63 b64 b65 b66 x0 x1 x2 x3 x4 x5 x6 q1 f6
        generalize (((((((X.setCell ⟨g6, 0, none⟩ (.string ts[p].path)).setCell ⟨g6, 1, none⟩ (.bool ts[p].old.there)).setCell ⟨g6, 2, none⟩ (.string ts[p].old.text)).setCell ⟨g6, 3, none⟩ (.bool ts[p].old.runs)).setCell ⟨g6, 4, none⟩ (.bool ts[p].new.there)).setCell ⟨g6, 5, none⟩ (.string ts[p].new.text)).setCell ⟨g6, 6, none⟩ (.bool ts[p].new.runs)) = X2 at *
        clear X
        have hY3 : YieldAt Fence.wide (n - 1) Try.prog l #[.agg #[.string ts[p].path, .bool ts[p].old.there, .string ts[p].old.text, .bool ts[p].old.runs, .bool ts[p].new.there, .string ts[p].new.text, .bool ts[p].new.runs], .agg #[.string ⟨#[]⟩, .bool false, .string ⟨#[]⟩, .bool false, .bool false, .string ⟨#[]⟩, .bool false]] X2 (fun e W' => (e = .returned (.bool true) ∧ J (pre ++ [(ts[p].path, some ts[p], none)]) W') ∨ (e = .returned (.bool false) ∧ Jx (pre ++ [(ts[p].path, some ts[p], none)]) W')) := hY pre (ts[p].path, some ts[p], none) _ (hJ pre wr _ hJs hX) ⟨_, hm⟩
        obtain ⟨fn, tmps, assign, body, hy, hR⟩ := hY3
        have HM : Keep (mrgC ts us = pre ++ [(ts[p].path, some ts[p], none)] ++ mrg Ch.path Ch.path f (ts.drop (p + 1)) (us.drop (q))) := ⟨hm⟩
        clear hY hJ hM hm hJs hX
        gi_wp2
        refine ⟨fun h => Bool.noConfusion h, hR.mono ?_⟩
        rintro e W3 (⟨rfl, hJ3⟩ | ⟨rfl, hJx3⟩)
        · gi_wp2
          go_roundw
          case rel => exact ⟨p + 1, q, f, pre ++ [(ts[p].path, some ts[p], none)], by congr 1, by congr 1, by omega, by omega, by omega, HM.out, hJ3⟩
          case measure => simp only [intOf]; omega
        · gi_wp2
          refine bodyPost_ret (results_none rfl _ _ _) rfl ?_
          exact ⟨⟨_, rfl⟩, .inr ⟨pre ++ [(ts[p].path, some ts[p], none)], ⟨_, HM.out.symm⟩, hJx3⟩⟩
      · obtain ⟨x, tr, y, ur, hd, hd2, hmr⟩ := frontG_eq (f := f) (by rw [ho]; exact heq)
        obtain ⟨hpl, rfl, rfl⟩ := drop_cons hd
        obtain ⟨hql, rfl, rfl⟩ := drop_cons hd2
        rw [hmr] at hm
        rw [List.append_cons] at hm
        obtain ⟨b1, o1, rfl, hc1⟩ := e1.at hpl
        obtain ⟨b2, o2, rfl, hc2⟩ := e2.at hql
        have hpl' : (p : Int) < ts.length := by omega
        have hql' : (q : Int) < us.length := by omega
        subst heq
        clear hc1 hc2 hd hd2 hmr hnn ho hend
        gi_wp2
        rw [← hA]
        refine wpIn_wide.2 ?_
        (haveI := later_any; refine wp_region_later (by kernel_rfl) (by kernel_rfl) ?_; (repeat (go_big_quiet_step (first | (go_at_call 64; exact HF.out _)))); refine wpQuiet_nil ?_; intro _ hwq; obtain ⟨xq, hwq2⟩ := hwq; subst hwq2)
        have hX := hal.trans (xq.kept.mono hal.size)
        obtain ⟨⟨b60, b61, b62, b63, b64, b65, b66⟩, ⟨b70, b71, b72, b73, b74, b75, b76⟩, f6, f7⟩ := two_boxesC hA xq.kept
        have HE1 : Keep (CS wr (some ⟨b1, o1, none⟩) ts) := ⟨e1⟩
        have HE2 : Keep (CS wr (some ⟨b2, o2, none⟩) us) := ⟨e2⟩
        have HM1 : Keep (wr.cell? ⟨Ba, 0, none⟩ = some (.slice (some ⟨b1, o1, none⟩) ts.length ca)) := ⟨m1⟩
        have HM2 : Keep (wr.cell? ⟨Bb, 0, none⟩ = some (.slice (some ⟨b2, o2, none⟩) us.length cb)) := ⟨m2⟩
        clear hs1 hs2 hes1 hes2 HF cm1 cm2 e1 e2 m1 m2 hA hal
        generalize xq.world = X at *
        clear xq
        obtain ⟨g6, hg6⟩ : ∃ g, g = wr.heap.size := ⟨_, rfl⟩
        obtain ⟨g7, hg7⟩ : ∃ g, g = wr.heap.size + 1 := ⟨_, rfl⟩
        rw [← hg7] at b70 b71 b72 b73 b74 b75 b76 f7 ⊢
        rw [← hg6] at b60 b61 b62 b63 b64 b65 b66 f6 ⊢
        have hn67 : ¬ g6 = g7 := by omega
        have HG : Keep (wr.heap.size ≤ g6 ∧ wr.heap.size ≤ g7) := ⟨by omega⟩
        clear hg6 hg7
        have q1 := cell_later hX HM1.out
        obtain ⟨x0, x1, x2, x3, x4, x5, x6⟩ := (HE1.out.below hX).cells hpl
        gi_upto_region 8 with fail
        replace hX := box7_below (.string ts[p].path) (.bool ts[p].old.there) (.string ts[p].old.text) (.bool ts[p].old.runs) (.bool ts[p].new.there) (.string ts[p].new.text) (.bool ts[p].new.runs) hX HG.out.1
        obtain ⟨z0, z1, z2, z3, z4, z5, z6⟩ := box7_set (.string ts[p].path) (.bool ts[p].old.there) (.string ts[p].old.text) (.bool ts[p].old.runs) (.bool ts[p].new.there) (.string ts[p].new.text) (.bool ts[p].new.runs) b60 b61 b62 b63 b64 b65 b66
        replace b70 := (box7_other (.string ts[p].path) (.bool ts[p].old.there) (.string ts[p].old.text) (.bool ts[p].old.runs) (.bool ts[p].new.there) (.string ts[p].new.text) (.bool ts[p].new.runs) hn67).trans b70
        replace b71 := (box7_other (.string ts[p].path) (.bool ts[p].old.there) (.string ts[p].old.text) (.bool ts[p].old.runs) (.bool ts[p].new.there) (.string ts[p].new.text) (.bool ts[p].new.runs) hn67).trans b71
        replace b72 := (box7_other (.string ts[p].path) (.bool ts[p].old.there) (.string ts[p].old.text) (.bool ts[p].old.runs) (.bool ts[p].new.there) (.string ts[p].new.text) (.bool ts[p].new.runs) hn67).trans b72
        replace b73 := (box7_other (.string ts[p].path) (.bool ts[p].old.there) (.string ts[p].old.text) (.bool ts[p].old.runs) (.bool ts[p].new.there) (.string ts[p].new.text) (.bool ts[p].new.runs) hn67).trans b73
        replace b74 := (box7_other (.string ts[p].path) (.bool ts[p].old.there) (.string ts[p].old.text) (.bool ts[p].old.runs) (.bool ts[p].new.there) (.string ts[p].new.text) (.bool ts[p].new.runs) hn67).trans b74
        replace b75 := (box7_other (.string ts[p].path) (.bool ts[p].old.there) (.string ts[p].old.text) (.bool ts[p].old.runs) (.bool ts[p].new.there) (.string ts[p].new.text) (.bool ts[p].new.runs) hn67).trans b75
        replace b76 := (box7_other (.string ts[p].path) (.bool ts[p].old.there) (.string ts[p].old.text) (.bool ts[p].old.runs) (.bool ts[p].new.there) (.string ts[p].new.text) (.bool ts[p].new.runs) hn67).trans b76
        replace f7 : ∀ j, (((((((X.setCell ⟨g6, 0, none⟩ (.string ts[p].path)).setCell ⟨g6, 1, none⟩ (.bool ts[p].old.there)).setCell ⟨g6, 2, none⟩ (.string ts[p].old.text)).setCell ⟨g6, 3, none⟩ (.bool ts[p].old.runs)).setCell ⟨g6, 4, none⟩ (.bool ts[p].new.there)).setCell ⟨g6, 5, none⟩ (.string ts[p].new.text)).setCell ⟨g6, 6, none⟩ (.bool ts[p].new.runs)).frozen? ⟨g7, j, none⟩ = false := fun j => (box7_fz (.string ts[p].path) (.bool ts[p].old.there) (.string ts[p].old.text) (.bool ts[p].old.runs) (.bool ts[p].new.there) (.string ts[p].new.text) (.bool ts[p].new.runs)).trans (f7 j)
        clear b60 b61 b62 b63 b64 b65 b66 x0 x1 x2 x3 x4 x5 x6 q1 f6
        generalize (((((((X.setCell ⟨g6, 0, none⟩ (.string ts[p].path)).setCell ⟨g6, 1, none⟩ (.bool ts[p].old.there)).setCell ⟨g6, 2, none⟩ (.string ts[p].old.text)).setCell ⟨g6, 3, none⟩ (.bool ts[p].old.runs)).setCell ⟨g6, 4, none⟩ (.bool ts[p].new.there)).setCell ⟨g6, 5, none⟩ (.string ts[p].new.text)).setCell ⟨g6, 6, none⟩ (.bool ts[p].new.runs)) = X2 at *
        clear X
        have q2 := cell_later hX HM2.out
        obtain ⟨y0, y1, y2, y3, y4, y5, y6⟩ := (HE2.out.below hX).cells hql
        gi_upto_region 11 with fail
        replace hX := box7_below (.string us[q].path) (.bool us[q].old.there) (.string us[q].old.text) (.bool us[q].old.runs) (.bool us[q].new.there) (.string us[q].new.text) (.bool us[q].new.runs) hX HG.out.2
        obtain ⟨v0, v1, v2, v3, v4, v5, v6⟩ := box7_set (.string us[q].path) (.bool us[q].old.there) (.string us[q].old.text) (.bool us[q].old.runs) (.bool us[q].new.there) (.string us[q].new.text) (.bool us[q].new.runs) b70 b71 b72 b73 b74 b75 b76
        have hn76 : ¬ g7 = g6 := fun e => hn67 e.symm
        replace z0 := (box7_other (.string us[q].path) (.bool us[q].old.there) (.string us[q].old.text) (.bool us[q].old.runs) (.bool us[q].new.there) (.string us[q].new.text) (.bool us[q].new.runs) hn76).trans z0
        replace z1 := (box7_other (.string us[q].path) (.bool us[q].old.there) (.string us[q].old.text) (.bool us[q].old.runs) (.bool us[q].new.there) (.string us[q].new.text) (.bool us[q].new.runs) hn76).trans z1
        replace z2 := (box7_other (.string us[q].path) (.bool us[q].old.there) (.string us[q].old.text) (.bool us[q].old.runs) (.bool us[q].new.there) (.string us[q].new.text) (.bool us[q].new.runs) hn76).trans z2
        replace z3 := (box7_other (.string us[q].path) (.bool us[q].old.there) (.string us[q].old.text) (.bool us[q].old.runs) (.bool us[q].new.there) (.string us[q].new.text) (.bool us[q].new.runs) hn76).trans z3
        replace z4 := (box7_other (.string us[q].path) (.bool us[q].old.there) (.string us[q].old.text) (.bool us[q].old.runs) (.bool us[q].new.there) (.string us[q].new.text) (.bool us[q].new.runs) hn76).trans z4
        replace z5 := (box7_other (.string us[q].path) (.bool us[q].old.there) (.string us[q].old.text) (.bool us[q].old.runs) (.bool us[q].new.there) (.string us[q].new.text) (.bool us[q].new.runs) hn76).trans z5
        replace z6 := (box7_other (.string us[q].path) (.bool us[q].old.there) (.string us[q].old.text) (.bool us[q].old.runs) (.bool us[q].new.there) (.string us[q].new.text) (.bool us[q].new.runs) hn76).trans z6
        clear b70 b71 b72 b73 b74 b75 b76 y0 y1 y2 y3 y4 y5 y6 q2 f7
        generalize (((((((X2.setCell ⟨g7, 0, none⟩ (.string us[q].path)).setCell ⟨g7, 1, none⟩ (.bool us[q].old.there)).setCell ⟨g7, 2, none⟩ (.string us[q].old.text)).setCell ⟨g7, 3, none⟩ (.bool us[q].old.runs)).setCell ⟨g7, 4, none⟩ (.bool us[q].new.there)).setCell ⟨g7, 5, none⟩ (.string us[q].new.text)).setCell ⟨g7, 6, none⟩ (.bool us[q].new.runs)) = X3 at *
        have hY3 : YieldAt Fence.wide (n - 1) Try.prog l #[.agg #[.string ts[p].path, .bool ts[p].old.there, .string ts[p].old.text, .bool ts[p].old.runs, .bool ts[p].new.there, .string ts[p].new.text, .bool ts[p].new.runs], .agg #[.string us[q].path, .bool us[q].old.there, .string us[q].old.text, .bool us[q].old.runs, .bool us[q].new.there, .string us[q].new.text, .bool us[q].new.runs]] X3 (fun e W' => (e = .returned (.bool true) ∧ J (pre ++ [(ts[p].path, some ts[p], some us[q])]) W') ∨ (e = .returned (.bool false) ∧ Jx (pre ++ [(ts[p].path, some ts[p], some us[q])]) W')) := hY pre (ts[p].path, some ts[p], some us[q]) _ (hJ pre wr _ hJs hX) ⟨_, hm⟩
        obtain ⟨fn, tmps, assign, body, hy, hR⟩ := hY3
        have HM : Keep (mrgC ts us = pre ++ [(ts[p].path, some ts[p], some us[q])] ++ mrg Ch.path Ch.path f (ts.drop (p + 1)) (us.drop (q + 1))) := ⟨hm⟩
        clear hY hJ hM hm hJs hX
        gi_wp2
        refine ⟨fun h => Bool.noConfusion h, hR.mono ?_⟩
        rintro e W3 (⟨rfl, hJ3⟩ | ⟨rfl, hJx3⟩)
        · gi_wp2
          go_roundw
          case rel => exact ⟨p + 1, q + 1, f, pre ++ [(ts[p].path, some ts[p], some us[q])], by congr 1, by congr 1, by omega, by omega, by omega, HM.out, hJ3⟩
          case measure => simp only [intOf]; omega
        · gi_wp2
          refine bodyPost_ret (results_none rfl _ _ _) rfl ?_
          exact ⟨⟨_, rfl⟩, .inr ⟨pre ++ [(ts[p].path, some ts[p], some us[q])], ⟨_, HM.out.symm⟩, hJx3⟩⟩
      · obtain ⟨y, ur, hd, hmr⟩ := frontG_gt (f := f) (by rw [ho]; exact hgt) hnn
        obtain ⟨hql, rfl, rfl⟩ := drop_cons hd
        rw [hmr] at hm
        rw [List.append_cons] at hm
        obtain ⟨b2, o2, rfl, hc2⟩ := e2.at hql
        have hql' : (q : Int) < us.length := by omega
        have ho1 : ¬ o ≤ 0 := by omega
        have ho2 : 0 ≤ o := by omega
        clear hc2 hd hmr hnn ho hend hgt
        by_cases hpl : p < ts.length
        · have hpl' : (p : Int) < ts.length := by omega
          gi_wp2
          rw [← hA]
          refine wpIn_wide.2 ?_
          (haveI := later_any; refine wp_region_later (by kernel_rfl) (by kernel_rfl) ?_; (repeat (go_big_quiet_step (first | (go_at_call 64; exact HF.out _)))); refine wpQuiet_nil ?_; intro _ hwq; obtain ⟨xq, hwq2⟩ := hwq; subst hwq2)
          have hX := hal.trans (xq.kept.mono hal.size)
          obtain ⟨⟨b60, b61, b62, b63, b64, b65, b66⟩, ⟨b70, b71, b72, b73, b74, b75, b76⟩, f6, f7⟩ := two_boxesC hA xq.kept
          have HE1 : Keep (CS wr a ts) := ⟨e1⟩
          have HE2 : Keep (CS wr (some ⟨b2, o2, none⟩) us) := ⟨e2⟩
          have HM1 : Keep (wr.cell? ⟨Ba, 0, none⟩ = some (.slice a ts.length ca)) := ⟨m1⟩
          have HM2 : Keep (wr.cell? ⟨Bb, 0, none⟩ = some (.slice (some ⟨b2, o2, none⟩) us.length cb)) := ⟨m2⟩
          clear hs1 hs2 hes1 hes2 HF cm1 cm2 e1 e2 m1 m2 hA hal
          generalize xq.world = X at *
          clear xq
          obtain ⟨g6, hg6⟩ : ∃ g, g = wr.heap.size := ⟨_, rfl⟩
          obtain ⟨g7, hg7⟩ : ∃ g, g = wr.heap.size + 1 := ⟨_, rfl⟩
          rw [← hg7] at b70 b71 b72 b73 b74 b75 b76 f7 ⊢
          rw [← hg6] at b60 b61 b62 b63 b64 b65 b66 f6 ⊢
          have hn67 : ¬ g6 = g7 := by omega
          have HG : Keep (wr.heap.size ≤ g6 ∧ wr.heap.size ≤ g7) := ⟨by omega⟩
          clear hg6 hg7
          have q2 := cell_later hX HM2.out
          obtain ⟨y0, y1, y2, y3, y4, y5, y6⟩ := (HE2.out.below hX).cells hql
          gi_upto_region 11 with fail
          replace hX := box7_below (.string us[q].path) (.bool us[q].old.there) (.string us[q].old.text) (.bool us[q].old.runs) (.bool us[q].new.there) (.string us[q].new.text) (.bool us[q].new.runs) hX HG.out.2
          obtain ⟨v0, v1, v2, v3, v4, v5, v6⟩ := box7_set (.string us[q].path) (.bool us[q].old.there) (.string us[q].old.text) (.bool us[q].old.runs) (.bool us[q].new.there) (.string us[q].new.text) (.bool us[q].new.runs) b70 b71 b72 b73 b74 b75 b76
          have hn76 : ¬ g7 = g6 := fun e => hn67 e.symm
          replace b60 := (box7_other (.string us[q].path) (.bool us[q].old.there) (.string us[q].old.text) (.bool us[q].old.runs) (.bool us[q].new.there) (.string us[q].new.text) (.bool us[q].new.runs) hn76).trans b60
          replace b61 := (box7_other (.string us[q].path) (.bool us[q].old.there) (.string us[q].old.text) (.bool us[q].old.runs) (.bool us[q].new.there) (.string us[q].new.text) (.bool us[q].new.runs) hn76).trans b61
          replace b62 := (box7_other (.string us[q].path) (.bool us[q].old.there) (.string us[q].old.text) (.bool us[q].old.runs) (.bool us[q].new.there) (.string us[q].new.text) (.bool us[q].new.runs) hn76).trans b62
          replace b63 := (box7_other (.string us[q].path) (.bool us[q].old.there) (.string us[q].old.text) (.bool us[q].old.runs) (.bool us[q].new.there) (.string us[q].new.text) (.bool us[q].new.runs) hn76).trans b63
          replace b64 := (box7_other (.string us[q].path) (.bool us[q].old.there) (.string us[q].old.text) (.bool us[q].old.runs) (.bool us[q].new.there) (.string us[q].new.text) (.bool us[q].new.runs) hn76).trans b64
          replace b65 := (box7_other (.string us[q].path) (.bool us[q].old.there) (.string us[q].old.text) (.bool us[q].old.runs) (.bool us[q].new.there) (.string us[q].new.text) (.bool us[q].new.runs) hn76).trans b65
          replace b66 := (box7_other (.string us[q].path) (.bool us[q].old.there) (.string us[q].old.text) (.bool us[q].old.runs) (.bool us[q].new.there) (.string us[q].new.text) (.bool us[q].new.runs) hn76).trans b66
          clear b70 b71 b72 b73 b74 b75 b76 y0 y1 y2 y3 y4 y5 y6 q2 f7
          generalize (((((((X.setCell ⟨g7, 0, none⟩ (.string us[q].path)).setCell ⟨g7, 1, none⟩ (.bool us[q].old.there)).setCell ⟨g7, 2, none⟩ (.string us[q].old.text)).setCell ⟨g7, 3, none⟩ (.bool us[q].old.runs)).setCell ⟨g7, 4, none⟩ (.bool us[q].new.there)).setCell ⟨g7, 5, none⟩ (.string us[q].new.text)).setCell ⟨g7, 6, none⟩ (.bool us[q].new.runs)) = X3 at *
          have hY3 : YieldAt Fence.wide (n - 1) Try.prog l #[.agg #[.string ⟨#[]⟩, .bool false, .string ⟨#[]⟩, .bool false, .bool false, .string ⟨#[]⟩, .bool false], .agg #[.string us[q].path, .bool us[q].old.there, .string us[q].old.text, .bool us[q].old.runs, .bool us[q].new.there, .string us[q].new.text, .bool us[q].new.runs]] X3 (fun e W' => (e = .returned (.bool true) ∧ J (pre ++ [(us[q].path, none, some us[q])]) W') ∨ (e = .returned (.bool false) ∧ Jx (pre ++ [(us[q].path, none, some us[q])]) W')) := hY pre (us[q].path, none, some us[q]) _ (hJ pre wr _ hJs hX) ⟨_, hm⟩
          obtain ⟨fn, tmps, assign, body, hy, hR⟩ := hY3
          have HM : Keep (mrgC ts us = pre ++ [(us[q].path, none, some us[q])] ++ mrg Ch.path Ch.path f (ts.drop (p)) (us.drop (q + 1))) := ⟨hm⟩
          clear hY hJ hM hm hJs hX
          gi_wp2
          refine ⟨fun h => Bool.noConfusion h, hR.mono ?_⟩
          rintro e W3 (⟨rfl, hJ3⟩ | ⟨rfl, hJx3⟩)
          · gi_wp2
            go_roundw
            case rel => exact ⟨p, q + 1, f, pre ++ [(us[q].path, none, some us[q])], by congr 1, by congr 1, by omega, by omega, by omega, HM.out, hJ3⟩
            case measure => simp only [intOf]; omega
          · gi_wp2
            refine bodyPost_ret (results_none rfl _ _ _) rfl ?_
            exact ⟨⟨_, rfl⟩, .inr ⟨pre ++ [(us[q].path, none, some us[q])], ⟨_, HM.out.symm⟩, hJx3⟩⟩
        · have hpl' : ¬ (p : Int) < ts.length := by omega
          gi_wp2
          rw [← hA]
          refine wpIn_wide.2 ?_
          (haveI := later_any; refine wp_region_later (by kernel_rfl) (by kernel_rfl) ?_; (repeat (go_big_quiet_step (first | (go_at_call 64; exact HF.out _)))); refine wpQuiet_nil ?_; intro _ hwq; obtain ⟨xq, hwq2⟩ := hwq; subst hwq2)
          have hX := hal.trans (xq.kept.mono hal.size)
          obtain ⟨⟨b60, b61, b62, b63, b64, b65, b66⟩, ⟨b70, b71, b72, b73, b74, b75, b76⟩, f6, f7⟩ := two_boxesC hA xq.kept
          have HE1 : Keep (CS wr a ts) := ⟨e1⟩
          have HE2 : Keep (CS wr (some ⟨b2, o2, none⟩) us) := ⟨e2⟩
          have HM1 : Keep (wr.cell? ⟨Ba, 0, none⟩ = some (.slice a ts.length ca)) := ⟨m1⟩
          have HM2 : Keep (wr.cell? ⟨Bb, 0, none⟩ = some (.slice (some ⟨b2, o2, none⟩) us.length cb)) := ⟨m2⟩
          clear hs1 hs2 hes1 hes2 HF cm1 cm2 e1 e2 m1 m2 hA hal
          generalize xq.world = X at *
          clear xq
          obtain ⟨g6, hg6⟩ : ∃ g, g = wr.heap.size := ⟨_, rfl⟩
          obtain ⟨g7, hg7⟩ : ∃ g, g = wr.heap.size + 1 := ⟨_, rfl⟩
          rw [← hg7] at b70 b71 b72 b73 b74 b75 b76 f7 ⊢
          rw [← hg6] at b60 b61 b62 b63 b64 b65 b66 f6 ⊢
          have hn67 : ¬ g6 = g7 := by omega
          have HG : Keep (wr.heap.size ≤ g6 ∧ wr.heap.size ≤ g7) := ⟨by omega⟩
          clear hg6 hg7
          have q2 := cell_later hX HM2.out
          obtain ⟨y0, y1, y2, y3, y4, y5, y6⟩ := (HE2.out.below hX).cells hql
          gi_upto_region 11 with fail
          replace hX := box7_below (.string us[q].path) (.bool us[q].old.there) (.string us[q].old.text) (.bool us[q].old.runs) (.bool us[q].new.there) (.string us[q].new.text) (.bool us[q].new.runs) hX HG.out.2
          obtain ⟨v0, v1, v2, v3, v4, v5, v6⟩ := box7_set (.string us[q].path) (.bool us[q].old.there) (.string us[q].old.text) (.bool us[q].old.runs) (.bool us[q].new.there) (.string us[q].new.text) (.bool us[q].new.runs) b70 b71 b72 b73 b74 b75 b76
          have hn76 : ¬ g7 = g6 := fun e => hn67 e.symm
          replace b60 := (box7_other (.string us[q].path) (.bool us[q].old.there) (.string us[q].old.text) (.bool us[q].old.runs) (.bool us[q].new.there) (.string us[q].new.text) (.bool us[q].new.runs) hn76).trans b60
          replace b61 := (box7_other (.string us[q].path) (.bool us[q].old.there) (.string us[q].old.text) (.bool us[q].old.runs) (.bool us[q].new.there) (.string us[q].new.text) (.bool us[q].new.runs) hn76).trans b61
          replace b62 := (box7_other (.string us[q].path) (.bool us[q].old.there) (.string us[q].old.text) (.bool us[q].old.runs) (.bool us[q].new.there) (.string us[q].new.text) (.bool us[q].new.runs) hn76).trans b62
          replace b63 := (box7_other (.string us[q].path) (.bool us[q].old.there) (.string us[q].old.text) (.bool us[q].old.runs) (.bool us[q].new.there) (.string us[q].new.text) (.bool us[q].new.runs) hn76).trans b63
          replace b64 := (box7_other (.string us[q].path) (.bool us[q].old.there) (.string us[q].old.text) (.bool us[q].old.runs) (.bool us[q].new.there) (.string us[q].new.text) (.bool us[q].new.runs) hn76).trans b64
          replace b65 := (box7_other (.string us[q].path) (.bool us[q].old.there) (.string us[q].old.text) (.bool us[q].old.runs) (.bool us[q].new.there) (.string us[q].new.text) (.bool us[q].new.runs) hn76).trans b65
          replace b66 := (box7_other (.string us[q].path) (.bool us[q].old.there) (.string us[q].old.text) (.bool us[q].old.runs) (.bool us[q].new.there) (.string us[q].new.text) (.bool us[q].new.runs) hn76).trans b66
          clear b70 b71 b72 b73 b74 b75 b76 y0 y1 y2 y3 y4 y5 y6 q2 f7
          generalize (((((((X.setCell ⟨g7, 0, none⟩ (.string us[q].path)).setCell ⟨g7, 1, none⟩ (.bool us[q].old.there)).setCell ⟨g7, 2, none⟩ (.string us[q].old.text)).setCell ⟨g7, 3, none⟩ (.bool us[q].old.runs)).setCell ⟨g7, 4, none⟩ (.bool us[q].new.there)).setCell ⟨g7, 5, none⟩ (.string us[q].new.text)).setCell ⟨g7, 6, none⟩ (.bool us[q].new.runs)) = X3 at *
          have hY3 : YieldAt Fence.wide (n - 1) Try.prog l #[.agg #[.string ⟨#[]⟩, .bool false, .string ⟨#[]⟩, .bool false, .bool false, .string ⟨#[]⟩, .bool false], .agg #[.string us[q].path, .bool us[q].old.there, .string us[q].old.text, .bool us[q].old.runs, .bool us[q].new.there, .string us[q].new.text, .bool us[q].new.runs]] X3 (fun e W' => (e = .returned (.bool true) ∧ J (pre ++ [(us[q].path, none, some us[q])]) W') ∨ (e = .returned (.bool false) ∧ Jx (pre ++ [(us[q].path, none, some us[q])]) W')) := hY pre (us[q].path, none, some us[q]) _ (hJ pre wr _ hJs hX) ⟨_, hm⟩
          obtain ⟨fn, tmps, assign, body, hy, hR⟩ := hY3
          have HM : Keep (mrgC ts us = pre ++ [(us[q].path, none, some us[q])] ++ mrg Ch.path Ch.path f (ts.drop (p)) (us.drop (q + 1))) := ⟨hm⟩
          clear hY hJ hM hm hJs hX
          gi_wp2
          refine ⟨fun h => Bool.noConfusion h, hR.mono ?_⟩
          rintro e W3 (⟨rfl, hJ3⟩ | ⟨rfl, hJx3⟩)
          · gi_wp2
            go_roundw
            case rel => exact ⟨p, q + 1, f, pre ++ [(us[q].path, none, some us[q])], by congr 1, by congr 1, by omega, by omega, by omega, HM.out, hJ3⟩
            case measure => simp only [intOf]; omega
          · gi_wp2
            refine bodyPost_ret (results_none rfl _ _ _) rfl ?_
            exact ⟨⟨_, rfl⟩, .inr ⟨pre ++ [(us[q].path, none, some us[q])], ⟨_, HM.out.symm⟩, hJx3⟩⟩

set_option maxHeartbeats 400000 in
theorem sideC_any (a b : Option Addr) (n m ca cb : Nat) (w : World) :
    Calls Try.prog 41 #[.slice a n ca, .slice b m cb] w fun e w' => e = .returned (.func (.func 63) #[] #[.pointer (some ⟨w.heap.size, 0, none⟩), .pointer (some ⟨w.heap.size + 1, 0, none⟩)]) ∧ w' = (w.alloc (.cells #[.slice a n ca] 28)).alloc (.cells #[.slice b m cb] 28) := by
  go_enter Try.func41, Try.ntmps41
  go_wp2
  go_ret
  exact ⟨by simp, rfl⟩
end Go.Proofs.Ytjlflmbifeocbaa

namespace Go.Proofs.Ytjlflmbifeocbaa
open Go.RowKit Go.Shelf

/-- The function gf with the captured values lb goes through the list all. -/
def Iter {α : Type} (gf : Nat) (lb : Array Value) (enc : α → Array Value) (all : List α) (M : World → Prop) : Prop :=
  ∀ (n l : Nat) (J Jx : List α → World → Prop) (W : World), (∀ pre W1, J pre W1 → M W1) → (∀ pre W1 W2, J pre W1 → Below W1.heap.size W1 W2 → J pre W2) →
    (∀ pre x W1, J pre W1 → (∃ r, all = (pre ++ [x]) ++ r) → YieldAt Fence.wide (n - 1) Try.prog l (enc x) W1 fun e W' =>
      (e = .returned (.bool true) ∧ J (pre ++ [x]) W') ∨ (e = .returned (.bool false) ∧ Jx (pre ++ [x]) W')) → J [] W →
    CallsIn Fence.wide n Try.prog gf (#[.func (.yield l) #[] #[]] ++ lb) W fun e W' => (∃ v, e = .returned v) ∧ (J all W' ∨ (∃ pre, pre <+: all ∧ Jx pre W'))

/-- The loop's own two blocks. -/
def TwoB (B : Nat) (W W' : World) : Prop := W'.heap[B]? = W.heap[B]? ∧ W'.heap[B + 1]? = W.heap[B + 1]?

/-- How the body of a round may be left. -/
def iterPost {α : Type} (B : Nat) (I : List α → World → Prop) (Ix : List α → World → Prop) (xs : List α) (W : World) : Exit → Act → World → Prop
  | .normal, _, W' => TwoB B W W' ∧ I xs W'
  | .ret, _, W' => TwoB B W W' ∧ Ix xs W'
  | .exit _, _, _ => False
  | .goto _, _, _ => False
  | .panic _, _, _ => False
  | .outgrown, _, _ => False

theorem range_iter {α : Type} {gf : Nat} {lb : Array Value} {enc : α → Array Value} {all : List α} {M : World → Prop} (hIt : Iter gf lb enc all M) (heg : ∀ args w, (callFunc gf args).run Try.prog w = .ok (.enter gf args) w)
    {g : Operand} {ps : Array Tmp} {assign body : Code} {Q : Exit → Act → World → Prop} {a : Act} {w : World} {n : Nat} (h1 : 1 ≤ n)
    (hg : a.eval g = .func (.func gf) #[] lb) (hps : ∀ x, (enc x).size = ps.size)
    (I Ix : List α → World → Prop) (hIM : ∀ pre W, I pre W → M W) (hIb : ∀ pre W W', I pre W → Below W.heap.size W W' → I pre W')
    (hIp : ∀ pre W l o, (l = w.heap.size ∨ l = w.heap.size + 1) → I pre W → I pre (W.putObj l o)) (hXp : ∀ pre W l o, (l = w.heap.size ∨ l = w.heap.size + 1) → Ix pre W → Ix pre (W.putObj l o))
    (h0 : ∀ o1 o2, I [] ((w.alloc o1).alloc o2)) (Bx : α → Nat → Act → World → Prop) (hBp : ∀ x B a' W l o, l < B → Bx x B a' W → Bx x B a' (W.putObj l o))
    (hassign : ∀ (l : Nat) (x : α) (W : World) (K : Act → World → Prop), (∀ a' W', Below W.heap.size W W' → Bx x W.heap.size a' W' → K a' W') →
      assign.wpIn (Fence.wide.inRound l) (n - 1 - 1) Try.prog (Exit.then K (fun _ _ _ => False)) { tmps := (ps.zip (enc x)).foldl (fun t (p, v) => t.setIfInBounds p v) a.tmps, defers := [] } W)
    (hbody : ∀ (l : Nat) (pre : List α) (x : α) (a' : Act) (B : Nat) (W : World), I pre W → (∃ r, all = pre ++ [x] ++ r) → w.heap.size + 1 < B → B ≤ W.heap.size → Bx x B a' W → body.wpIn (Fence.wide.inRound l) (n - 1 - 1) Try.prog (iterPost w.heap.size I Ix (pre ++ [x]) W) a' W)
    (hdone : ∀ (W : World), I all W → W.heap[w.heap.size]? = some (.deferred (some [])) → Q .normal { a with defers := { target := .collected w.heap.size, args := #[] } :: a.defers } W)
    (hstop : ∀ (pre : List α) (W : World), pre <+: all → Ix pre W → W.heap[w.heap.size]? = some (.deferred (some [])) → Code.ret.wpIn Fence.wide n Try.prog Q { a with defers := { target := .collected w.heap.size, args := #[] } :: a.defers } W) :
    (Code.rangeFunc g ps assign body).wpIn Fence.wide n Try.prog Q a w := by
  refine wpIn_rangeFunc ?_
  intro fn hfn
  rw [show Fence.wide.round = none from rfl]
  obtain ⟨rc, hrc⟩ : ∃ rc : LoopState → Option Code → Loop, rc = fun st pe => { state := st, pending := pe, fn, tmps := a.tmps, params := ps, assign, body, defers := w.heap.size } := ⟨_, rfl⟩
  obtain ⟨W1, hW1⟩ : ∃ W1, (w.alloc (.deferred (some []))).alloc (.loop (rc .ready none)) = W1 := ⟨_, rfl⟩
  have hL1 : W1.heap[w.heap.size + 1]? = some (.loop (rc .ready none)) := by
    rw [← hW1]
    have := World.alloc_heap_new (w.alloc (.deferred (some []))) (.loop (rc .ready none))
    rwa [World.size_alloc] at this
  have hK1 : W1.heap[w.heap.size]? = some (.deferred (some [])) := by
    rw [← hW1]; exact (Below.heap_alloc _ _ _ (by simp)).trans (World.alloc_heap_new w _)
  have hI1 : I [] W1 := by rw [← hW1]; exact h0 _ _
  refine ⟨w.heap.size + 1, [{ target := .collected w.heap.size, args := #[] }], W1, { target := .fn (.func gf) lb, args := #[.func (.yield (w.heap.size + 1)) #[] #[]] }, W1, gf,
    #[.func (.yield (w.heap.size + 1)) #[] #[]] ++ lb, W1, ?_, ?_, ?_, ?_, fun _ => h1, ?_⟩
  · rw [← hW1, hrc]; exact run_enterLoop_outer _ _ _ _ _
  · simp only [resolve, hg]
    simp [go_sem]
  · intro f' hf'; trivial
  · simp [invoke, go_sem, heg]
  · refine (hIt (n - 1) (w.heap.size + 1)
      (fun pre W => I pre W ∧ W.heap[w.heap.size + 1]? = some (.loop (rc .ready none)) ∧ W.heap[w.heap.size]? = some (.deferred (some [])))
      (fun pre W => Ix pre W ∧ W.heap[w.heap.size + 1]? = some (.loop (rc .done (some .ret))) ∧ W.heap[w.heap.size]? = some (.deferred (some [])))
      W1 (fun pre W hJ => hIM pre W hJ.1)
      (fun pre W W' hJ hb => ⟨hIb _ _ _ hJ.1 hb, (hb.block _ (Array.getElem?_eq_some_iff.1 hJ.2.1).1).trans hJ.2.1, (hb.block _ (Array.getElem?_eq_some_iff.1 hJ.2.2).1).trans hJ.2.2⟩) ?_ ⟨hI1, hL1, hK1⟩).mono ?_
    · rintro pre x W ⟨hi, hl, hk⟩ hr
      have hlt1 : w.heap.size + 1 < W.heap.size := (Array.getElem?_eq_some_iff.1 hl).1
      have hy := run_yield (P := Try.prog) (args := enc x) hl (by rw [hrc]; exact hps x)
      rw [hrc] at hy
      refine ⟨fn, _, assign, body, hy, roundIn_of_wpIn hfn (hassign _ x W _ ?_)⟩
      intro a2 W2 hb2 hbx
      have hl' : W2.heap[w.heap.size + 1]? = some (.loop (rc .ready none)) := (hb2.block _ hlt1).trans hl
      have hk' : W2.heap[w.heap.size]? = some (.deferred (some [])) := (hb2.block _ (by omega)).trans hk
      have hlt2 : w.heap.size + 1 < W2.heap.size := Nat.lt_of_lt_of_le hlt1 hb2.size
      refine ⟨_, run_beginRound hl' (by rw [hrc]), ?_⟩
      have hl2 : (W2.putObj (w.heap.size + 1) (.loop { rc .ready none with state := .busy })).heap[w.heap.size + 1]? = some (.loop { rc .ready none with state := .busy }) := World.putObj_heap_same hlt2
      have hk2 : (W2.putObj (w.heap.size + 1) (.loop { rc .ready none with state := .busy })).heap[w.heap.size]? = some (.deferred (some [])) := (World.putObj_heap_other (by omega)).trans hk'
      refine wpIn_mono (hbody _ pre x _ W.heap.size _ (hIp _ _ _ _ (.inr rfl) (hIb _ _ _ hi hb2)) hr hlt1 (by simpa using hb2.size) (hBp _ _ _ _ _ _ hlt1 hbx)) ?_
      have fin : ∀ (jump : Option Code) (W3 : World), TwoB w.heap.size (W2.putObj (w.heap.size + 1) (.loop { rc .ready none with state := .busy })) W3 →
          (Instr.endRound (w.heap.size + 1) jump).run Try.prog W3 = .ok (.bool jump.isNone) (W3.putObj (w.heap.size + 1) (.loop (rc (if jump.isNone then .ready else .done) jump))) ∧
          (W3.putObj (w.heap.size + 1) (.loop (rc (if jump.isNone then .ready else .done) jump))).heap[w.heap.size + 1]? = some (.loop (rc (if jump.isNone then .ready else .done) jump)) ∧
          (W3.putObj (w.heap.size + 1) (.loop (rc (if jump.isNone then .ready else .done) jump))).heap[w.heap.size]? = some (.deferred (some [])) := fun jump W3 h3 => by
        have hl3 := h3.2.trans hl2
        have := run_endRound (P := Try.prog) jump hl3
        rw [hrc] at this ⊢
        rw [hrc] at hl3
        exact ⟨this, World.putObj_heap_same (Array.getElem?_eq_some_iff.1 hl3).1, (World.putObj_heap_other (by omega)).trans (h3.1.trans hk2)⟩
      rintro e a3 W3 hp
      cases e with
      | normal =>
        obtain ⟨h3, hi3⟩ := hp
        obtain ⟨hr3, hl4, hk4⟩ := fin none W3 h3
        exact ⟨_, _, hr3, .inl ⟨rfl, hIp _ _ _ _ (.inr rfl) hi3, hl4, hk4⟩⟩
      | ret =>
        obtain ⟨h3, hi3⟩ := hp
        obtain ⟨hr3, hl4, hk4⟩ := fin (some .ret) W3 h3
        exact ⟨_, _, hr3, .inr ⟨rfl, hXp _ _ _ _ (.inr rfl) hi3, hl4, hk4⟩⟩
      | exit id => exact hp.elim
      | goto t => exact hp.elim
      | panic ch => exact hp.elim
      | outgrown => exact hp.elim
    · rintro e W2 ⟨⟨v, rfl⟩, (⟨hi, hl, hk⟩ | ⟨pre, hpre, hi, hl, hk⟩)⟩
      · exact ⟨none, _, by have := run_endLoop (P := Try.prog) hl (by rw [hrc]; simp); rw [hrc] at this; exact this, hdone _ (hIp _ _ _ _ (.inr rfl) hi) ((World.putObj_heap_other (by omega)).trans hk)⟩
      · exact ⟨some .ret, _, by have := run_endLoop (P := Try.prog) hl (by rw [hrc]; simp); rw [hrc] at this; exact this, hstop pre _ hpre (hXp _ _ _ _ (.inr rfl) hi) ((World.putObj_heap_other (by omega)).trans hk)⟩
end Go.Proofs.Ytjlflmbifeocbaa

namespace Go.Proofs.Ytjlflmbifeocbaa
open Go.RowKit Go.Shelf

theorem range_iter2 {α : Type} {gf : Nat} {lb : Array Value} {enc : α → Array Value} {all : List α} {M : World → Prop} (hIt : Iter gf lb enc all M) (heg : ∀ args w, (callFunc gf args).run Try.prog w = .ok (.enter gf args) w)
    {g : Operand} {ps : Array Tmp} {assign body : Code} {Q : Exit → Act → World → Prop} {a : Act} {w : World} {n : Nat} (h1 : 1 ≤ n)
    (hg : a.eval g = .func (.func gf) #[] lb) (hps : ∀ x, (enc x).size = ps.size)
    (I Ix : List α → World → Prop) (hIM : ∀ pre W, I pre W → M W) (hIb : ∀ pre W W', I pre W → Below W.heap.size W W' → I pre W')
    (hIp : ∀ pre W l o, (l = w.heap.size ∨ l = w.heap.size + 1) → I pre W → I pre (W.putObj l o)) (hXp : ∀ pre W l o, (l = w.heap.size ∨ l = w.heap.size + 1) → Ix pre W → Ix pre (W.putObj l o))
    (h0 : ∀ o1 o2, I [] ((w.alloc o1).alloc o2)) (Bx : α → Nat → Act → World → Prop) (hBp : ∀ x B a' W l o, l < B → Bx x B a' W → Bx x B a' (W.putObj l o))
    (hassign : ∀ (l : Nat) (x : α) (W : World) (K : Act → World → Prop), (∀ a' W', Below W.heap.size W W' → Bx x W.heap.size a' W' → K a' W') →
      assign.wpIn (Fence.wide.inRound l) (n - 1 - 1) Try.prog (Exit.then K (fun _ _ _ => False)) { tmps := (ps.zip (enc x)).foldl (fun t (p, v) => t.setIfInBounds p v) a.tmps, defers := [] } W)
    (hbody : ∀ (l : Nat) (pre : List α) (x : α) (a' : Act) (Wb W : World), I pre Wb → (∃ r, all = pre ++ [x] ++ r) → w.heap.size + 1 < Wb.heap.size → Below Wb.heap.size Wb W → Bx x Wb.heap.size a' W → body.wpIn (Fence.wide.inRound l) (n - 1 - 1) Try.prog (iterPost w.heap.size I Ix (pre ++ [x]) W) a' W)
    (hdone : ∀ (W : World), I all W → W.heap[w.heap.size]? = some (.deferred (some [])) → Q .normal { a with defers := { target := .collected w.heap.size, args := #[] } :: a.defers } W)
    (hstop : ∀ (pre : List α) (W : World), pre <+: all → Ix pre W → W.heap[w.heap.size]? = some (.deferred (some [])) → Code.ret.wpIn Fence.wide n Try.prog Q { a with defers := { target := .collected w.heap.size, args := #[] } :: a.defers } W) :
    (Code.rangeFunc g ps assign body).wpIn Fence.wide n Try.prog Q a w := by
  refine wpIn_rangeFunc ?_
  intro fn hfn
  rw [show Fence.wide.round = none from rfl]
  obtain ⟨rc, hrc⟩ : ∃ rc : LoopState → Option Code → Loop, rc = fun st pe => { state := st, pending := pe, fn, tmps := a.tmps, params := ps, assign, body, defers := w.heap.size } := ⟨_, rfl⟩
  obtain ⟨W1, hW1⟩ : ∃ W1, (w.alloc (.deferred (some []))).alloc (.loop (rc .ready none)) = W1 := ⟨_, rfl⟩
  have hL1 : W1.heap[w.heap.size + 1]? = some (.loop (rc .ready none)) := by
    rw [← hW1]
    have := World.alloc_heap_new (w.alloc (.deferred (some []))) (.loop (rc .ready none))
    rwa [World.size_alloc] at this
  have hK1 : W1.heap[w.heap.size]? = some (.deferred (some [])) := by
    rw [← hW1]; exact (Below.heap_alloc _ _ _ (by simp)).trans (World.alloc_heap_new w _)
  have hI1 : I [] W1 := by rw [← hW1]; exact h0 _ _
  refine ⟨w.heap.size + 1, [{ target := .collected w.heap.size, args := #[] }], W1, { target := .fn (.func gf) lb, args := #[.func (.yield (w.heap.size + 1)) #[] #[]] }, W1, gf,
    #[.func (.yield (w.heap.size + 1)) #[] #[]] ++ lb, W1, ?_, ?_, ?_, ?_, fun _ => h1, ?_⟩
  · rw [← hW1, hrc]; exact run_enterLoop_outer _ _ _ _ _
  · simp only [resolve, hg]
    simp [go_sem]
  · intro f' hf'; trivial
  · simp [invoke, go_sem, heg]
  · refine (hIt (n - 1) (w.heap.size + 1)
      (fun pre W => I pre W ∧ W.heap[w.heap.size + 1]? = some (.loop (rc .ready none)) ∧ W.heap[w.heap.size]? = some (.deferred (some [])))
      (fun pre W => Ix pre W ∧ W.heap[w.heap.size + 1]? = some (.loop (rc .done (some .ret))) ∧ W.heap[w.heap.size]? = some (.deferred (some [])))
      W1 (fun pre W hJ => hIM pre W hJ.1)
      (fun pre W W' hJ hb => ⟨hIb _ _ _ hJ.1 hb, (hb.block _ (Array.getElem?_eq_some_iff.1 hJ.2.1).1).trans hJ.2.1, (hb.block _ (Array.getElem?_eq_some_iff.1 hJ.2.2).1).trans hJ.2.2⟩) ?_ ⟨hI1, hL1, hK1⟩).mono ?_
    · rintro pre x W ⟨hi, hl, hk⟩ hr
      have hlt1 : w.heap.size + 1 < W.heap.size := (Array.getElem?_eq_some_iff.1 hl).1
      have hy := run_yield (P := Try.prog) (args := enc x) hl (by rw [hrc]; exact hps x)
      rw [hrc] at hy
      refine ⟨fn, _, assign, body, hy, roundIn_of_wpIn hfn (hassign _ x W _ ?_)⟩
      intro a2 W2 hb2 hbx
      have hl' : W2.heap[w.heap.size + 1]? = some (.loop (rc .ready none)) := (hb2.block _ hlt1).trans hl
      have hk' : W2.heap[w.heap.size]? = some (.deferred (some [])) := (hb2.block _ (by omega)).trans hk
      have hlt2 : w.heap.size + 1 < W2.heap.size := Nat.lt_of_lt_of_le hlt1 hb2.size
      refine ⟨_, run_beginRound hl' (by rw [hrc]), ?_⟩
      have hl2 : (W2.putObj (w.heap.size + 1) (.loop { rc .ready none with state := .busy })).heap[w.heap.size + 1]? = some (.loop { rc .ready none with state := .busy }) := World.putObj_heap_same hlt2
      have hk2 : (W2.putObj (w.heap.size + 1) (.loop { rc .ready none with state := .busy })).heap[w.heap.size]? = some (.deferred (some [])) := (World.putObj_heap_other (by omega)).trans hk'
      have hbp : Below (W.putObj (w.heap.size + 1) (.loop { rc .ready none with state := .busy })).heap.size (W.putObj (w.heap.size + 1) (.loop { rc .ready none with state := .busy })) (W2.putObj (w.heap.size + 1) (.loop { rc .ready none with state := .busy })) := by
        refine ⟨hb2.os, hb2.tape, hb2.output, by simpa using hb2.size, fun k hk => ?_⟩
        have hk' : k < W.heap.size := by simpa using hk
        by_cases e : k = w.heap.size + 1
        · subst e
          rw [World.putObj_heap_same hlt2, World.putObj_heap_same hlt1]
        · rw [World.putObj_heap_other e, World.putObj_heap_other e]
          exact hb2.block k hk'
      have hbx2 : Bx x (W.putObj (w.heap.size + 1) (.loop { rc .ready none with state := .busy })).heap.size a2 (W2.putObj (w.heap.size + 1) (.loop { rc .ready none with state := .busy })) := by
        have := hBp _ _ _ _ (w.heap.size + 1) (.loop { rc .ready none with state := .busy }) hlt1 hbx
        simpa using this
      refine wpIn_mono (hbody _ pre x _ _ _ (hIp _ _ _ _ (.inr rfl) hi) hr (by simpa using hlt1) hbp hbx2) ?_
      have fin : ∀ (jump : Option Code) (W3 : World), TwoB w.heap.size (W2.putObj (w.heap.size + 1) (.loop { rc .ready none with state := .busy })) W3 →
          (Instr.endRound (w.heap.size + 1) jump).run Try.prog W3 = .ok (.bool jump.isNone) (W3.putObj (w.heap.size + 1) (.loop (rc (if jump.isNone then .ready else .done) jump))) ∧
          (W3.putObj (w.heap.size + 1) (.loop (rc (if jump.isNone then .ready else .done) jump))).heap[w.heap.size + 1]? = some (.loop (rc (if jump.isNone then .ready else .done) jump)) ∧
          (W3.putObj (w.heap.size + 1) (.loop (rc (if jump.isNone then .ready else .done) jump))).heap[w.heap.size]? = some (.deferred (some [])) := fun jump W3 h3 => by
        have hl3 := h3.2.trans hl2
        have := run_endRound (P := Try.prog) jump hl3
        rw [hrc] at this ⊢
        rw [hrc] at hl3
        exact ⟨this, World.putObj_heap_same (Array.getElem?_eq_some_iff.1 hl3).1, (World.putObj_heap_other (by omega)).trans (h3.1.trans hk2)⟩
      rintro e a3 W3 hp
      cases e with
      | normal =>
        obtain ⟨h3, hi3⟩ := hp
        obtain ⟨hr3, hl4, hk4⟩ := fin none W3 h3
        exact ⟨_, _, hr3, .inl ⟨rfl, hIp _ _ _ _ (.inr rfl) hi3, hl4, hk4⟩⟩
      | ret =>
        obtain ⟨h3, hi3⟩ := hp
        obtain ⟨hr3, hl4, hk4⟩ := fin (some .ret) W3 h3
        exact ⟨_, _, hr3, .inr ⟨rfl, hXp _ _ _ _ (.inr rfl) hi3, hl4, hk4⟩⟩
      | exit id => exact hp.elim
      | goto t => exact hp.elim
      | panic ch => exact hp.elim
      | outgrown => exact hp.elim
    · rintro e W2 ⟨⟨v, rfl⟩, (⟨hi, hl, hk⟩ | ⟨pre, hpre, hi, hl, hk⟩)⟩
      · exact ⟨none, _, by have := run_endLoop (P := Try.prog) hl (by rw [hrc]; simp); rw [hrc] at this; exact this, hdone _ (hIp _ _ _ _ (.inr rfl) hi) ((World.putObj_heap_other (by omega)).trans hk)⟩
      · exact ⟨some .ret, _, by have := run_endLoop (P := Try.prog) hl (by rw [hrc]; simp); rw [hrc] at this; exact this, hstop pre _ hpre (hXp _ _ _ _ (.inr rfl) hi) ((World.putObj_heap_other (by omega)).trans hk)⟩
end Go.Proofs.Ytjlflmbifeocbaa

namespace Go.Proofs.Ytjlflmbifeocbaa
open Go.RowKit

def addG (l : List ByteArray) (ps : List ByteArray) : List ByteArray := ps.foldl nameL l
theorem addG_take {l ps : List ByteArray} {j : Nat} (hj : j < ps.length) : addG l (ps.take (j + 1)) = nameL (addG l (ps.take j)) ps[j] := by
  unfold addG
  rw [List.take_succ_eq_append_getElem hj, List.foldl_append]
  rfl
theorem addG_len (l ps : List ByteArray) : ∀ j, j ≤ ps.length → (addG l (ps.take j)).length ≤ l.length + j
  | 0, _ => by simp [addG]
  | j + 1, hj => by
    have h := addG_len l ps j (by omega)
    rw [addG_take (by omega)]
    have := nameL_len (addG l (ps.take j)) ps[j]
    omega
theorem addG_asc {l : List ByteArray} (hl : AscN l) (ps : List ByteArray) : AscN (addG l ps) ∧ ∀ y, y ∈ addG l ps ↔ y ∈ l ∨ y ∈ ps := by
  have key : ∀ j, j ≤ ps.length → AscN (addG l (ps.take j)) ∧ ∀ y, y ∈ addG l (ps.take j) ↔ y ∈ l ∨ y ∈ ps.take j := by
    intro j
    induction j with
    | zero => intro _; exact ⟨by simpa [addG] using hl, fun y => by simp [addG]⟩
    | succ j ih =>
      intro hj
      obtain ⟨h1, h2⟩ := ih (by omega)
      rw [addG_take (by omega)]
      have h3 := nameL_asc (s := ps[j]) h1
      refine ⟨h3.1, fun y => ?_⟩
      rw [h3.2, h2, List.take_succ_eq_append_getElem (by omega), List.mem_append, List.mem_singleton, or_assoc]
  have := key ps.length (Nat.le_refl _)
  rwa [List.take_length] at this

def joinNs (p q : List Ch) : List ByteArray := addG (addG [] (p.map Ch.path)) (q.map Ch.path)
def outJ2 (n : ByteArray) : Option Ch → Option Ch → List Ch
  | none, y => [y.getD noCh]
  | some x, none => [x]
  | some x, some y => if sameF x.old y.new = true then [] else [⟨n, x.old, y.new⟩]
def clJ2 : Option Ch → Option Ch → Bool
  | some x, some y => !sameF x.new y.old
  | _, _ => false
def outJ (p q : List Ch) (n : ByteArray) : List Ch := outJ2 n (fnd Ch.path p n) (fnd Ch.path q n)
def clJ (p q : List Ch) (n : ByteArray) : Bool := clJ2 (fnd Ch.path p n) (fnd Ch.path q n)
theorem outJ2_len (n : ByteArray) (x y : Option Ch) : (outJ2 n x y).length ≤ 1 := by
  unfold outJ2
  split
  · simp
  · simp
  · split <;> simp
def joinN (p q : List Ch) (ns : List ByteArray) : List Ch := ns.flatMap (outJ p q)
theorem joinN_take {p q : List Ch} {ns : List ByteArray} {k : Nat} (hk : k < ns.length) : joinN p q (ns.take (k + 1)) = joinN p q (ns.take k) ++ outJ p q ns[k] := by
  unfold joinN
  rw [List.take_succ_eq_append_getElem hk, List.flatMap_append]
  simp
theorem outJ_len (p q : List Ch) (n : ByteArray) : (outJ p q n).length ≤ 1 := outJ2_len _ _ _
theorem joinN_len (p q : List Ch) : ∀ ns : List ByteArray, (joinN p q ns).length ≤ ns.length
  | [] => Nat.le_refl _
  | n :: ns => by
    have h := joinN_len p q ns
    have h1 := outJ_len p q n
    unfold joinN at h ⊢
    rw [List.flatMap_cons, List.length_append, List.length_cons]
    omega
theorem joinNs_len (p q : List Ch) : (joinNs p q).length ≤ p.length + q.length := by
  have h1 := addG_len [] (p.map Ch.path) (p.map Ch.path).length (Nat.le_refl _)
  have h2 := addG_len (addG [] (p.map Ch.path)) (q.map Ch.path) (q.map Ch.path).length (Nat.le_refl _)
  rw [List.take_length] at h1 h2
  simp only [List.length_map, List.length_nil] at h1 h2
  unfold joinNs
  omega
theorem joinNs_mem (p q : List Ch) : AscN (joinNs p q) ∧ ∀ n, n ∈ joinNs p q ↔ (∃ x ∈ p, Ch.path x = n) ∨ ∃ y ∈ q, Ch.path y = n := by
  have h1 := addG_asc (l := []) List.Pairwise.nil (p.map Ch.path)
  have h2 := addG_asc h1.1 (q.map Ch.path)
  refine ⟨h2.1, fun n => ?_⟩
  unfold joinNs
  rw [h2.2, h1.2]
  simp

def JoinRel (p q cs : List Ch) (ok : Bool) : Prop :=
  (¬ (ValidP p ∧ ValidP q) ∧ cs = [] ∧ ok = false) ∨ (ValidP p ∧ ValidP q ∧
    (((∃ n ∈ joinNs p q, clJ p q n = true) ∧ cs = [] ∧ ok = false) ∨
     ((∀ n ∈ joinNs p q, clJ p q n = false) ∧ ((200 < (joinN p q (joinNs p q)).length ∧ cs = [] ∧ ok = false) ∨ ((joinN p q (joinNs p q)).length ≤ 200 ∧ cs = joinN p q (joinNs p q) ∧ ok = true)))))
def JoinPost (p q : List Ch) (w : World) (e : Ending) (w' : World) : Prop :=
  ∃ cs ok, JoinRel p q cs ok ∧ (∃ ad cap, e = .returned (.tuple #[.agg #[.slice ad cs.length cap], .bool ok]) ∧ CL w.heap.size w' ad cs) ∧ Below w.heap.size w w'
theorem join_one {p q us vs : List Ch} {c d : Bool} (h : JoinRel p q us c) (h' : JoinRel p q vs d) : us = vs ∧ c = d := by
  rcases h with ⟨h1, rfl, rfl⟩ | ⟨h1, h2, h⟩
  · rcases h' with ⟨_, rfl, rfl⟩ | ⟨h3, h4, _⟩
    · exact ⟨rfl, rfl⟩
    · exact absurd ⟨h3, h4⟩ h1
  · rcases h' with ⟨h3, _⟩ | ⟨_, _, h'⟩
    · exact absurd ⟨h1, h2⟩ h3
    · rcases h with ⟨⟨n, hn, hc⟩, rfl, rfl⟩ | ⟨hn, h⟩
      · rcases h' with ⟨_, rfl, rfl⟩ | ⟨hn', _⟩
        · exact ⟨rfl, rfl⟩
        · rw [hn' n hn] at hc; cases hc
      · rcases h' with ⟨⟨n, hn', hc⟩, _⟩ | ⟨_, h'⟩
        · rw [hn n hn'] at hc; cases hc
        · rcases h with ⟨h5, rfl, rfl⟩ | ⟨h5, rfl, rfl⟩
          · rcases h' with ⟨_, rfl, rfl⟩ | ⟨h6, _⟩
            · exact ⟨rfl, rfl⟩
            · omega
          · rcases h' with ⟨h6, _⟩ | ⟨_, rfl, rfl⟩
            · omega
            · exact ⟨rfl, rfl⟩
theorem join_few {p q us : List Ch} {c : Bool} (h : JoinRel p q us c) : us.length ≤ 200 := by
  rcases h with ⟨_, rfl, _⟩ | ⟨_, _, ⟨_, rfl, _⟩ | ⟨_, ⟨_, rfl, _⟩ | ⟨h, rfl, _⟩⟩⟩
  · simp
  · simp
  · simp
  · exact h
end Go.Proofs.Ytjlflmbifeocbaa

namespace Go.Proofs.Ytjlflmbifeocbaa
open Go.RowKit

set_option maxRecDepth 20000 in
set_option maxHeartbeats 1000000 in
theorem change_none (h : Nat) (p : ByteArray) (f g : Fl) (w : World) (hs : sameF f g = true) :
    Calls Try.prog 31 #[.pointer (some ⟨h, 0, none⟩), .string p, flV f, flV g] w fun e w' => e = .returned (.tuple #[]) ∧ Below w.heap.size w w' := by
  unfold flV
  have hal : Below w.heap.size w ((w.alloc (.cells #[.bool f.there, .string f.text, .bool f.runs] 54)).alloc (.cells #[.bool g.there, .string g.text, .bool g.runs] 54)) := ((Below.refl _ _).alloc (Nat.le_refl _) _).alloc (by simp) _
  obtain ⟨h1, h2, h3⟩ : f.there = g.there ∧ f.text.toList = g.text.toList ∧ f.runs = g.runs := by simpa [sameF, and_assoc] using hs
  rw [h1, h3] at hal
  go_enter Try.func31, Try.ntmps31
  go_wp2
  refine bodyPost_end (v := .tuple #[]) ?_ rfl ⟨rfl, hal⟩
  go_light
  simp [results, Try.results31, go_sem]
end Go.Proofs.Ytjlflmbifeocbaa

namespace Go.Proofs.Ytjlflmbifeocbaa
open Go.RowKit

set_option maxRecDepth 20000 in
set_option maxHeartbeats 1000000 in
theorem l6FileOk_any (f : Fl) (w : World) :
    Calls Try.prog 67 #[.agg #[.bool f.there, .string f.text, .bool f.runs]] w fun e w' => e = .returned (.bool (flOk f)) ∧ Below w.heap.size w w' := by
  have hal : Below w.heap.size w (w.alloc (.cells #[.bool f.there, .string f.text, .bool f.runs] 54)) := (Below.refl _ _).alloc (Nat.le_refl _) _
  by_cases hs : (f.text.size : Int) ≤ 1500
  · have hs' : f.text.size ≤ 1500 := by omega
    cases ht : f.there with
    | true =>
      rw [ht] at hal
      go_enter Try.func67, Try.ntmps67
      go_wp2
      go_ret
      exact ⟨by simp [flOk, ht, hs'], hal⟩
    | false =>
      rw [ht] at hal
      cases he : f.text.toList.isEmpty with
      | true =>
        have he' : f.text.toList = [] := by simpa using he
        go_enter Try.func67, Try.ntmps67
        go_wp2
        go_ret
        exact ⟨by simp [flOk, ht, hs', he'], hal⟩
      | false =>
        have he' : ¬ f.text.toList = [] := by simpa using he
        go_enter Try.func67, Try.ntmps67
        go_wp2
        go_ret
        exact ⟨by simp [flOk, ht, hs', he'], hal⟩
  · have hs' : ¬ f.text.size ≤ 1500 := by omega
    go_enter Try.func67, Try.ntmps67
    go_wp2
    go_ret
    exact ⟨by simp [flOk, hs'], hal⟩

set_option maxRecDepth 20000 in
set_option maxHeartbeats 4000000 in
theorem isChange_any (c : Ch) (w : World) (hs : c.path.size ≤ 1099511627776) :
    Calls Try.prog 42 #[chV c] w fun e w' => e = .returned (.bool (chOk c)) ∧ Below w.heap.size w w' := by
  unfold chV
  have hal : Below w.heap.size w (w.alloc (.cells #[.string c.path, .bool c.old.there, .string c.old.text, .bool c.old.runs, .bool c.new.there, .string c.new.text, .bool c.new.runs] 68)) := (Below.refl _ _).alloc (Nat.le_refl _) _
  have hc : ChAt (w.alloc (.cells #[.string c.path, .bool c.old.there, .string c.old.text, .bool c.old.runs, .bool c.new.there, .string c.new.text, .bool c.new.runs] 68)) w.heap.size 0 c := by simp [ChAt]
  go_enter Try.func42, Try.ntmps42
  go_wp2_with fail
  refine (implPath_any c.path hs _).mono ?_
  rintro e w1 ⟨rfl, hb1⟩
  have hbw := hal.trans (hb1.mono hal.size)
  replace hc := hc.later hb1
  obtain ⟨d0, d1, d2, d3, d4, d5, d6⟩ := hc
  have HC : Keep (ChAt w1 w.heap.size 0 c) := ⟨⟨d0, d1, d2, d3, d4, d5, d6⟩⟩
  simp only [Nat.zero_add] at d0 d1 d2 d3 d4 d5 d6
  cases hp : pathOk pathB c.path with
  | false =>
    go_wp2
    go_ret
    exact ⟨by simp [chOk, hp], hbw⟩
  | true =>
    go_wp2_with fail
    refine (isFile_any c.old _).mono ?_
    rintro e w2 ⟨rfl, hb2⟩
    have hbw2 := hbw.trans (hb2.mono hbw.size)
    clear d0 d1 d2 d3 d4 d5 d6
    obtain ⟨d0, d1, d2, d3, d4, d5, d6⟩ := HC.out.later hb2
    have HC2 : Keep (ChAt w2 w.heap.size 0 c) := ⟨⟨d0, d1, d2, d3, d4, d5, d6⟩⟩
    simp only [Nat.zero_add] at d0 d1 d2 d3 d4 d5 d6
    cases ho : flOk c.old with
    | false =>
      go_wp2
      go_ret
      exact ⟨by simp [chOk, hp, ho], hbw2⟩
    | true =>
      go_wp2_with fail
      refine (isFile_any c.new _).mono ?_
      rintro e w3 ⟨rfl, hb3⟩
      have hbw3 := hbw2.trans (hb3.mono hbw2.size)
      clear d0 d1 d2 d3 d4 d5 d6
      obtain ⟨d0, d1, d2, d3, d4, d5, d6⟩ := HC2.out.later hb3
      simp only [Nat.zero_add] at d0 d1 d2 d3 d4 d5 d6
      cases hnw : flOk c.new with
      | false =>
        go_wp2
        go_ret
        exact ⟨by simp [chOk, hp, ho, hnw], hbw3⟩
      | true =>
        by_cases h1 : c.old.there = c.new.there
        · by_cases h2 : c.old.text.toList = c.new.text.toList
          · by_cases h3 : c.old.runs = c.new.runs
            · go_wp2
              go_ret
              exact ⟨by simp [chOk, hp, ho, hnw, sameF, h1, h2, h3], hbw3⟩
            · go_wp2
              go_ret
              exact ⟨by simp [chOk, hp, ho, hnw, sameF, h1, h2, h3], hbw3⟩
          · go_wp2
            go_ret
            exact ⟨by simp [chOk, hp, ho, hnw, sameF, h1, h2], hbw3⟩
        · go_wp2
          go_ret
          exact ⟨by simp [chOk, hp, ho, hnw, sameF, h1], hbw3⟩
end Go.Proofs.Ytjlflmbifeocbaa

namespace Go.Proofs.Ytjlflmbifeocbaa
open Go.RowKit

set_option maxHeartbeats 1000000 in
theorem isEntry_any (e : En) (hs : e.path.size ≤ 1099511627776) (w : World) :
    Calls Try.prog 69 #[.agg #[.string e.path, .string e.text, .bool e.runs]] w fun x w' => x = .returned (.bool (enOk e)) ∧ Below w.heap.size w w' := by
  have hal : Below w.heap.size w (w.alloc (.cells #[.string e.path, .string e.text, .bool e.runs] 57)) := (Below.refl _ _).alloc (Nat.le_refl _) _
  cases hp : pathOk pathB e.path with
  | false =>
    go_enter Try.func69, Try.ntmps69
    go_wp2_with fail
    refine (implPath_any e.path hs _).mono ?_
    rintro x w1 ⟨rfl, hb⟩
    rw [hp]
    go_wp2
    go_ret
    exact ⟨retB (by simp [enOk, hp]), hal.trans (hb.mono hal.size)⟩
  | true =>
    go_enter Try.func69, Try.ntmps69
    go_wp2_with fail
    refine (implPath_any e.path hs _).mono ?_
    rintro x w1 ⟨rfl, hb⟩
    rw [hp]
    have x1 := hb.cell (p := ⟨w.heap.size, 1, none⟩) (by simp)
    simp at x1
    go_wp2
    go_ret
    refine ⟨retB ?_, hal.trans (hb.mono hal.size)⟩
    have : ((e.text.size : Int) ≤ 1500) ↔ e.text.size ≤ 1500 := by omega
    simp [enOk, hp, this]

theorem tree_new (w : World) : TreeM w.heap.size 0 ((w.alloc (.map #[] 0)).alloc (.cells #[.bool false, .string ⟨#[]⟩, .bool false, .map (some w.heap.size)] 117)) (fun q => if q = [] then some (w.heap.size + 1) else none) (fun _ => w.heap.size) (fun _ => none) := by
  refine ⟨fun p b hb => ?_, fun p q b hp hq => ?_, fun p q hp hq _ => ?_, fun p x h => ?_, by simp⟩
  · by_cases e : p = []
    · subst e
      simp at hb
      subst hb
      refine ⟨?_, by omega, Nat.le_refl _, ?_⟩
      · have := World.alloc_heap_new (w.alloc (.map #[] 0)) (nodeObj none w.heap.size)
        rw [World.size_alloc] at this
        exact this
      · have hm : (w.alloc (.map #[] 0)).ownsMap Try.prog 9 ptrR w.heap.size 0 (.map []) := World.ownsMap_made _ _ _ _
        obtain ⟨es, cl, m1, m2⟩ := hm
        refine ⟨0, .map [], ⟨es, cl, (Below.heap_alloc _ _ _ (by simp)).trans m1, m2⟩, Nat.le_refl _, fun x _ => ?_, ⟨fun _ x => by simp, fun _ => rfl⟩, fun y hy => by rw [Maps.has_eq] at hy; simp at hy⟩
        simp
        rfl
    · simp [e] at hb
  · by_cases e1 : p = [] <;> by_cases e2 : q = [] <;> simp [e1, e2] at hp hq ⊢
  · by_cases e1 : p = [] <;> by_cases e2 : q = [] <;> simp [e1, e2] at hp hq ⊢
  · simp at h

theorem path_pos {p : Int → Bool} {s : ByteArray} (h : pathOk p s = true) : 0 < s.size := by
  simp only [pathOk, Bool.and_eq_true] at h
  have h2 := h.2
  rw [partsB_cut] at h2
  simp only [List.all_cons, Bool.and_eq_true] at h2
  have h3 := h2.1
  simp only [partOk, Bool.and_eq_true, decide_eq_true_eq] at h3
  have := cutHead_size s
  omega

/-- What grow answers. -/
def GrowPost (ts : List En) (w : World) (e : Ending) (w' : World) : Prop :=
  Below w.heap.size w w' ∧
  ((ValidTs ts ∧ ∃ root, e = .returned (.tuple #[.pointer (some ⟨root, 0, none⟩), .bool true]) ∧ ∃ lo N β μ φ, w.heap.size ≤ lo ∧ N ≤ 1000 ∧ TreeM lo N w' β μ φ ∧ β [] = some root ∧ Shape ts β φ) ∨
   (¬ ValidTs ts ∧ e = .returned (.tuple #[.pointer none, .bool false])))

theorem parts6 {e : En} (h : enOk e = true) : (partsB e.path).length ≤ 6 ∧ e.path.size ≤ 126 := by
  simp only [enOk, Bool.and_eq_true] at h
  refine ⟨?_, pathOk_size h.1⟩
  have := h.1
  simp only [pathOk, Bool.and_eq_true, decide_eq_true_eq] at this
  exact this.1

set_option maxRecDepth 100000 in
set_option maxHeartbeats 4000000 in
theorem grow_any (a : Option Addr) (cap : Nat) (ts : List En) (w : World) (hts : ES w a ts) (hn : ts.length ≤ 1048576) (hz : ∀ e ∈ ts, e.path.size ≤ 1048576) :
    Calls Try.prog 55 #[.agg #[.slice a ts.length cap]] w fun e w' => GrowPost ts w e w' := by
  by_cases h100 : (100 : Int) < ts.length
  · go_enter Try.func55, Try.ntmps55
    go_wp2
    go_ret2
    exact ⟨(Below.refl _ _).alloc (Nat.le_refl _) _, .inr ⟨fun h => by have := h.1; omega, rfl⟩⟩
  have hbT : Below w.heap.size w (w.alloc (.cells #[.slice a ts.length cap] 25)) := (Below.refl _ _).alloc (Nat.le_refl _) _
  have htT := hts.below hbT
  have hcT : (w.alloc (.cells #[.slice a ts.length cap] 25)).cell? ⟨w.heap.size, 0, none⟩ = some (.slice a ts.length cap) := by simp
  have hsT : (w.alloc (.cells #[.slice a ts.length cap] 25)).heap.size = w.heap.size + 1 := by simp
  go_enter Try.func55, Try.ntmps55
  go_wp2_with fail
  have hnew := tree_new (w.alloc (.cells #[.slice a ts.length cap] 25))
  have hbN : Below (w.heap.size + 1) (w.alloc (.cells #[.slice a ts.length cap] 25)) (((w.alloc (.cells #[.slice a ts.length cap] 25)).alloc (.map #[] 0)).alloc (.cells #[.bool false, .string ⟨#[]⟩, .bool false, .map (some (w.heap.size + 1))] 117)) := ((Below.refl _ _).alloc (by simp) _).alloc (by simp) _
  rw [hsT] at hnew
  refine (newNode_any _).mono ?_
  rintro e w1 ⟨rfl, rfl⟩
  go_wp2
  have hwf : w.heap.size < w.heap.size + 1 := by omega
  obtain ⟨L, hL⟩ : ∃ L, L = w.heap.size + 1 := ⟨_, rfl⟩
  rw [← hL] at hnew hbN hsT hwf ⊢
  have HL : Keep (L = w.heap.size + 1) := ⟨hL⟩
  clear hL
  generalize hwN : ((w.alloc (.cells #[.slice a ts.length cap] 25)).alloc (.map #[] 0)).alloc (.cells #[.bool false, .string ⟨#[]⟩, .bool false, .map (some L)] 117) = Wn at *
  generalize hwT : w.alloc (.cells #[.slice a ts.length cap] 25) = wT at *
  have HS : Keep (wT.heap.size = L) := ⟨hsT⟩
  have hLe : wT.heap.size ≤ L := by omega
  have hLg : L ≤ wT.heap.size := by omega
  clear hsT hwN hwT
  have hsh : Shape (ts.take 0) (fun q => if q = [] then some (L + 1) else none) (fun _ => none) := Shape.start (fun q => by by_cases e : q = [] <;> simp [e]) (fun _ => rfl)
  go_loopw [15] (fun i wr => ∃ (k N : Nat) (β : Way → Option Nat) (μ : Way → Nat) (φ : Way → Option (ByteArray × Bool)), i = .int .i64 k ∧ k ≤ ts.length ∧ TreeM L N wr β μ φ ∧ N ≤ 6 * k ∧ β [] = some (L + 1) ∧ Shape (ts.take k) β φ ∧ Keep (∀ i, i < k → OkAt ts i) ∧ Below L wT wr) (fun i _ => ts.length - (intOf i).toNat)
  case atStart => exact ⟨0, 0, _, _, _, rfl, Nat.zero_le _, hnew, Nat.le_refl _, by simp, hsh, ⟨fun i hi => by omega⟩, hbN⟩
  case round =>
    clear hnew hbN hsh
    obtain ⟨k, N, β, μ, φ, rfl, hk, hT, hN, hroot, hS, hok, hB⟩ := hrel
    have hBT : Below wT.heap.size wT wr := HS.out ▸ hB
    have hE := htT.below hBT
    have hcT' := (hB.cell (p := ⟨w.heap.size, 0, none⟩) hwf).trans hcT
    have hBw := hbT.trans (hBT.mono hbT.size)
    by_cases hlt : k < ts.length
    · have hlt' : (k : Int) < ts.length := by omega
      obtain ⟨b, off, rfl, hc⟩ := hE.at hlt
      obtain ⟨x0, x1, x2⟩ := hc k hlt
      have hals : Below wr.heap.size wr (wr.alloc (.cells #[.string ts[k].path, .string ts[k].text, .bool ts[k].runs] 57)) := (Below.refl _ _).alloc (Nat.le_refl _) _
      have hcT2 := cell_later hals hcT'
      have hT2 := hT.below hals
      have hBw2 := hBw.trans (hals.mono hBw.size)
      have hBL2 := hB.alloc (Nat.le_trans hLg hBT.size) (.cells #[.string ts[k].path, .string ts[k].text, .bool ts[k].runs] 57)
      have hzk := hz ts[k] (List.getElem_mem hlt)
      have hprev : ∀ j (hj : j < ts.length), j + 1 = k → (wr.alloc (.cells #[.string ts[k].path, .string ts[k].text, .bool ts[k].runs] 57)).cell? ⟨b, off + j * 3, none⟩ = some (.string ts[j].path) := fun j hj _ => cell_later hals (hc j hj).1
      have hbad : ¬ OkAt ts k → ¬ ValidTs ts := fun h1 h2 => h1 (h2.2 k hlt)
      clear hc hE htT hts
      have hbnd : N ≤ 600 := by omega
      go_upto_region 7 with fail
      go_cut [33] (fun v wx => ∃ bl : Bool, v = .bool bl ∧ (bl = false ↔ ∀ j, j + 1 = k → ∀ hj : j < ts.length, Op.bytesLess ts[j].path.toList ts[k].path.toList = true) ∧ ∃ n, wx = (wr.alloc (.cells #[.string ts[k].path, .string ts[k].text, .bool ts[k].runs] 57)).drewN n)
      case first =>
        by_cases hk0 : k = 0
        · have hkd : decide (0 < k) = false := by simp [hk0]
          go_quiet (fail)
          go_wp2_with fail
          go_meet
          case rel => exact ⟨false, rfl, ⟨fun _ j hj => by omega, fun _ => rfl⟩, _, rfl⟩
        · obtain ⟨j, rfl⟩ : ∃ j, k = j + 1 := ⟨k - 1, by omega⟩
          have hp := hprev j (by omega) rfl
          have hk0' : (0 : Int) < ((j + 1 : Nat) : Int) := by omega
          have hkd : decide (0 < j + 1) = true := by simp
          have htot := less_total ts[j].path.toList ts[j + 1].path.toList
          have HT : Keep ((!(Op.bytesLess ts[j].path.toList ts[j + 1].path.toList)) = (Op.bytesLess ts[j + 1].path.toList ts[j].path.toList || ts[j + 1].path.toList == ts[j].path.toList)) := ⟨htot⟩
          clear htot
          go_quiet (fail)
          go_wp2_with fail
          go_meet
          case rel =>
            refine ⟨_, rfl, ?_, _, rfl⟩
            rw [← HT.out]
            constructor
            · intro h j' hj' hl
              obtain rfl : j' = j := by omega
              simpa using h
            · intro h
              have := h j rfl (by omega)
              rw [this]; rfl
      case rest =>
        obtain ⟨bl, rfl, hbl, nq, rfl⟩ := hcut
        have HB : Keep (bl = false ↔ ∀ j, j + 1 = k → ∀ hj : j < ts.length, Op.bytesLess ts[j].path.toList ts[k].path.toList = true) := ⟨hbl⟩
        clear hbl hprev
        have y0 : ((wr.alloc (.cells #[.string ts[k].path, .string ts[k].text, .bool ts[k].runs] 57)).drewN nq).cell? ⟨wr.heap.size, 0, none⟩ = some (.string ts[k].path) := by simp
        have y1 : ((wr.alloc (.cells #[.string ts[k].path, .string ts[k].text, .bool ts[k].runs] 57)).drewN nq).cell? ⟨wr.heap.size, 1, none⟩ = some (.string ts[k].text) := by simp
        have y2 : ((wr.alloc (.cells #[.string ts[k].path, .string ts[k].text, .bool ts[k].runs] 57)).drewN nq).cell? ⟨wr.heap.size, 2, none⟩ = some (.bool ts[k].runs) := by simp
        have hT5 : TreeM L N ((wr.alloc (.cells #[.string ts[k].path, .string ts[k].text, .bool ts[k].runs] 57)).drewN nq) β μ φ := hT2.turn (fun _ _ => rfl)
        have hB5 : Below L wT ((wr.alloc (.cells #[.string ts[k].path, .string ts[k].text, .bool ts[k].runs] 57)).drewN nq) := hBL2.trans ⟨rfl, rfl, rfl, Nat.le_refl _, fun _ _ => rfl⟩
        have hBw5 : Below w.heap.size w ((wr.alloc (.cells #[.string ts[k].path, .string ts[k].text, .bool ts[k].runs] 57)).drewN nq) := hBw2.trans ⟨rfl, rfl, rfl, Nat.le_refl _, fun _ _ => rfl⟩
        generalize (wr.alloc (.cells #[.string ts[k].path, .string ts[k].text, .bool ts[k].runs] 57)).drewN nq = W5 at *
        clear hBw2 hBL2 hT2 hcT2 hals x0 x1 x2 hBw hcT' hBT hB hT
        generalize wr.heap.size = be at *
        cases bl with
        | true =>
          go_wp2
          go_ret2
          refine ⟨hBw5, .inr ⟨hbad (fun ⟨_, _, h2, _⟩ => ?_), rfl⟩⟩
          have := HB.out.2 h2
          cases this
        | false =>
          have hpl := HB.out.1 rfl
          have HP : Keep (∀ j, j + 1 = k → ∀ hj : j < ts.length, Op.bytesLess ts[j].path.toList ts[k].path.toList = true) := ⟨hpl⟩
          clear hpl HB
          go_wp2_with fail
          refine (isEntry_any ts[k] (by omega) _).mono ?_
          rintro x w6 ⟨rfl, hb6⟩
          cases hen : enOk ts[k] with
          | false =>
            go_wp2
            go_ret2
            refine ⟨hBw5.trans (hb6.mono hBw5.size), .inr ⟨hbad (fun ⟨_, h1, _, _⟩ => ?_), rfl⟩⟩
            rw [hen] at h1
            cases h1
          | true =>
            obtain ⟨h6, h126⟩ := parts6 hen
            have y0 := cell_later hb6 y0
            have y1 := cell_later hb6 y1
            have y2 := cell_later hb6 y2
            have hT6 := hT5.below hb6
            have hBw6 := hBw5.trans (hb6.mono hBw5.size)
            have hLw : L ≤ W5.heap.size := Nat.le_trans hLg hB5.size
            have hB6 := hB5.trans (hb6.mono hLw)
            have hLw6 : L ≤ w6.heap.size := Nat.le_trans hLw hb6.size
            have hless := asc_all hok.out hlt HP.out
            have hbi := blocked_iff hS ts[k] hless
            have HBI : Keep (Blocked β φ (partsB ts[k].path) ↔ ∃ e' ∈ ts.take k, Begins e'.path ts[k].path) := ⟨hbi⟩
            have hlay := lay_any L N (L + 1) w6 β μ φ hT6 hS.files_nodes hroot (by omega) ts[k] (by omega) (path_pos (by simp only [enOk, Bool.and_eq_true] at hen; exact hen.1))
            clear hless hbi hT5 hB5 hBw5 hb6
            go_wp2_with fail
            refine hlay.mono ?_
            rintro x w7 (⟨rfl, hnb, ⟨β', μ', hT7, hgr, hr7⟩, hBT7⟩ | ⟨rfl, hbl, _, hBT7⟩)
            · have hB7 := hBT7.below hT6 hLw6
              have hS7 := hS.laid ts[k] (by
                cases hx : φ (partsB ts[k].path) with
                | none => rfl
                | some f => exact absurd (.inr (.inl (by rw [hx]; simp))) hnb) hgr
              rw [← List.take_succ_eq_append_getElem hlt] at hS7
              have hok7 : Keep (∀ i, i < k + 1 → OkAt ts i) := ⟨fun i hi => by
                by_cases e : i = k
                · subst e
                  exact ⟨hlt, hen, HP.out, fun e' he hb => hnb (HBI.out.2 ⟨e', he, hb⟩)⟩
                · exact hok.out i (by omega)⟩
              clear hlay HBI hnb hgr hS
              go_wp2
              go_roundw
              case rel => exact ⟨k + 1, N + (partsB ts[k].path).length, β', μ', _, by congr 1, hlt, hT7, by omega, by rw [hr7]; exact hroot, hS7, hok7, hB6.trans hB7⟩
              case measure => simp only [intOf]; omega
            · have hB7 := hBT7.below hT6 hLw6
              have hBw7 : Below w.heap.size w w7 := hBw6.trans (hB7.mono (by omega))
              clear hlay
              go_wp2
              go_ret2
              refine ⟨hBw7, .inr ⟨hbad (fun ⟨_, _, _, h3⟩ => ?_), rfl⟩⟩
              obtain ⟨e', he, hb⟩ := HBI.out.1 hbl
              exact h3 e' he hb
    · obtain rfl : k = ts.length := by omega
      go_wp2
      go_ret2
      rw [List.take_length] at hS
      exact ⟨hBw, .inl ⟨⟨by omega, hok.out⟩, L + 1, rfl, L, N, β, μ, φ, by omega, by omega, hT, hroot, hS⟩⟩
end Go.Proofs.Ytjlflmbifeocbaa

namespace Go.Proofs.Ytjlflmbifeocbaa
open Go.RowKit

def lastB (cs : List Ch) : Nat → ByteArray
  | 0 => ⟨#[]⟩
  | k + 1 => (cs[k]?.map (·.path)).getD ⟨#[]⟩
theorem lastB_succ {cs : List Ch} {k : Nat} (h : k < cs.length) : lastB cs (k + 1) = cs[k].path := by simp [lastB, List.getElem?_eq_getElem h]

def VpPost (cs : List Ch) (w : World) (e : Ending) (w' : World) : Prop := ∃ vb : Bool, e = .returned (.bool vb) ∧ (vb = true ↔ ValidP cs) ∧ Below w.heap.size w w'
theorem VpPost.no {cs : List Ch} {w w' : World} (h : ¬ ValidP cs) (hb : Below w.heap.size w w') : VpPost cs w (.returned (.bool false)) w' := ⟨false, rfl, ⟨fun e => (by cases e), fun e => absurd e h⟩, hb⟩

/-- What is not behind the last one is not valid there. -/
theorem le_bad {cs : List Ch} {k : Nat} (hk : k < cs.length) (h : Op.bytesLess (lastB cs k).toList cs[k].path.toList = false) : ¬ ValidP cs := by
  intro hv
  obtain ⟨_, h1, h2⟩ := hv.2 k hk
  cases k with
  | zero =>
    simp only [chOk, Bool.and_eq_true] at h1
    have hp := path_pos h1.1.1.1
    have hl : cs[0].path.toList ≠ [] := by
      rw [Lib.toList_data]
      have : cs[0].path.data.toList.length = cs[0].path.size := (Lib.size_eq cs[0].path).symm
      intro e
      rw [e] at this
      simp at this
      omega
    have : Op.bytesLess (lastB cs 0).toList cs[0].path.toList = true := by
      have e0 : (lastB cs 0).toList = [] := by simp [lastB, Lib.toList_data]
      rw [e0]
      cases hx : cs[0].path.toList with
      | nil => exact absurd hx hl
      | cons a l => rfl
    rw [h] at this
    cases this
  | succ j =>
    have := h2 j rfl (by omega)
    rw [lastB_succ (by omega)] at h
    rw [h] at this
    cases this
theorem le_good {cs : List Ch} {k : Nat} (hk : k < cs.length) (h : Op.bytesLess (lastB cs k).toList cs[k].path.toList = true) (hc : chOk cs[k] = true) : POk cs k := by
  refine ⟨hk, hc, fun j hj hjl => ?_⟩
  subst hj
  rw [lastB_succ hjl] at h
  exact h

set_option maxRecDepth 100000 in
set_option maxHeartbeats 4000000 in
theorem implPatch_any (a : Option Addr) (cap : Nat) (cs : List Ch) (w : World) (hcs : CS w a cs) (hn : cs.length ≤ 1048576) (hz : ∀ c ∈ cs, c.path.size ≤ 1048576) :
    Calls Try.prog 14 #[.agg #[.slice a cs.length cap]] w fun e w' => VpPost cs w e w' := by
  have hal : Below w.heap.size w (w.alloc (.cells #[.slice a cs.length cap] 30)) := (Below.refl _ _).alloc (Nat.le_refl _) _
  by_cases h200 : (200 : Int) < cs.length
  · go_enter Try.func14, Try.ntmps14
    go_wp2
    go_ret
    exact VpPost.no (fun h => by have := h.1; omega) hal
  go_enter Try.func14, Try.ntmps14
  go_wp2
  go_loopw [3, 13] (fun l i wr => ∃ k : Nat, l = .string (lastB cs k) ∧ i = .int .i64 k ∧ k ≤ cs.length ∧ Keep (∀ j, j < k → POk cs j) ∧ Below w.heap.size w wr) (fun _ i _ => cs.length - (intOf i).toNat)
  case atStart => exact ⟨0, rfl, rfl, Nat.zero_le _, ⟨fun j hj => by omega⟩, hal⟩
  case round =>
    obtain ⟨k, rfl, rfl, hk, hok, hb⟩ := hrel
    by_cases hlt : k < cs.length
    · have hlt' : (k : Int) < cs.length := by omega
      obtain ⟨b, off, rfl, hc⟩ := (hcs.below hb).at hlt
      obtain ⟨c0, c1, c2, c3, c4, c5, c6⟩ := hc k hlt
      clear hc
      have htot := less_total (lastB cs k).toList cs[k].path.toList
      have HBAD : Keep (Op.bytesLess (lastB cs k).toList cs[k].path.toList = false → ¬ ValidP cs) := ⟨le_bad hlt⟩
      have HGOOD : Keep (Op.bytesLess (lastB cs k).toList cs[k].path.toList = true → chOk cs[k] = true → POk cs k) := ⟨le_good hlt⟩
      have HL : Keep (lastB cs (k + 1) = cs[k].path) := ⟨lastB_succ hlt⟩
      have hals : Below wr.heap.size wr (wr.alloc (.cells #[.string cs[k].path, .bool cs[k].old.there, .string cs[k].old.text, .bool cs[k].old.runs, .bool cs[k].new.there, .string cs[k].new.text, .bool cs[k].new.runs] 68)) := (Below.refl _ _).alloc (Nat.le_refl _) _
      have x0 : (wr.alloc (.cells #[.string cs[k].path, .bool cs[k].old.there, .string cs[k].old.text, .bool cs[k].old.runs, .bool cs[k].new.there, .string cs[k].new.text, .bool cs[k].new.runs] 68)).cell? ⟨wr.heap.size, 0, none⟩ = some (.string cs[k].path) := by simp
      have hbx := hb.trans (hals.mono hb.size)
      have hzk := hz cs[k] (List.getElem_mem hlt)
      cases hl : Op.bytesLess (lastB cs k).toList cs[k].path.toList with
      | false =>
        rw [hl] at htot
        have hle := htot.symm
        simp only [Bool.not_false] at hle
        have hbad := HBAD.out hl
        clear htot
        go_wp2
        go_ret
        exact VpPost.no hbad hbx
      | true =>
        rw [hl] at htot
        have hle := htot.symm
        simp only [Bool.not_true] at hle
        clear htot
        have hcall := isChange_any cs[k] (wr.alloc (.cells #[.string cs[k].path, .bool cs[k].old.there, .string cs[k].old.text, .bool cs[k].old.runs, .bool cs[k].new.there, .string cs[k].new.text, .bool cs[k].new.runs] 68)) (by omega)
        unfold chV at hcall
        go_wp2_with fail
        refine hcall.mono ?_
        rintro e w2 ⟨rfl, hb2⟩
        have hbw2 := hbx.trans (hb2.mono hbx.size)
        have x2 := cell_later hb2 x0
        clear hcall
        cases hck : chOk cs[k] with
        | false =>
          have hbad : ¬ ValidP cs := fun hv => by
            obtain ⟨_, h1, _⟩ := hv.2 k hlt
            rw [hck] at h1
            cases h1
          go_wp2
          go_ret
          exact VpPost.no hbad hbw2
        | true =>
          have HP : Keep (∀ j, j < k + 1 → POk cs j) := ⟨fun j hj => by
            by_cases e : j = k
            · subst e; exact HGOOD.out hl hck
            · exact hok.out j (by omega)⟩
          go_wp2
          go_roundw
          case rel => exact ⟨k + 1, by rw [HL.out], by congr 1, hlt, HP, hbw2⟩
          case measure => simp only [intOf]; omega
    · obtain rfl : k = cs.length := by omega
      go_wp2
      go_ret
      exact ⟨true, rfl, ⟨fun _ => ⟨by omega, hok.out⟩, fun _ => rfl⟩, hb⟩
end Go.Proofs.Ytjlflmbifeocbaa

namespace Go.Proofs.Ytjlflmbifeocbaa
open Go.RowKit

theorem box7_grown {X : World} {g : Nat} (v0 v1 v2 v3 v4 v5 v6 : Value) : X.grownBy (((((((X.setCell ⟨g, 0, none⟩ v0).setCell ⟨g, 1, none⟩ v1).setCell ⟨g, 2, none⟩ v2).setCell ⟨g, 3, none⟩ v3).setCell ⟨g, 4, none⟩ v4).setCell ⟨g, 5, none⟩ v5).setCell ⟨g, 6, none⟩ v6) (some g) :=
  have h : ∀ (Y : World) (j : Nat) (v : Value), Y.grownBy (Y.setCell ⟨g, j, none⟩ v) (some g) := fun Y j v => ⟨rfl, rfl, rfl, by simp, fun k _ hk => Below.heap_setCell _ _ _ _ (fun e => hk (by rw [e]))⟩
  have t : ∀ {A B C : World}, A.grownBy B (some g) → B.grownBy C (some g) → A.grownBy C (some g) := fun a b => ⟨b.os.trans a.os, b.tape.trans a.tape, b.output.trans a.output, Nat.le_trans a.size b.size, fun k hk hne => (b.block k (Nat.lt_of_lt_of_le hk a.size) hne).trans (a.block k hk hne)⟩
  t (t (t (t (t (t (h _ _ _) (h _ _ _)) (h _ _ _)) (h _ _ _)) (h _ _ _)) (h _ _ _)) (h _ _ _)

/-- A change in a box. -/
structure CBox (b : Nat) (c : Ch) (W : World) : Prop where
  c0 : W.cell? ⟨b, 0, none⟩ = some (.string c.path)
  c1 : W.cell? ⟨b, 1, none⟩ = some (.bool c.old.there)
  c2 : W.cell? ⟨b, 2, none⟩ = some (.string c.old.text)
  c3 : W.cell? ⟨b, 3, none⟩ = some (.bool c.old.runs)
  c4 : W.cell? ⟨b, 4, none⟩ = some (.bool c.new.there)
  c5 : W.cell? ⟨b, 5, none⟩ = some (.string c.new.text)
  c6 : W.cell? ⟨b, 6, none⟩ = some (.bool c.new.runs)
  fz : ∀ j, W.frozen? ⟨b, j, none⟩ = false
  lt : b < W.heap.size
theorem CBox.block {b : Nat} {c : Ch} {W W' : World} (h : CBox b c W) (hb : W'.heap[b]? = W.heap[b]?) : CBox b c W' :=
  ⟨(World.cell?_of_block hb).trans h.c0, (World.cell?_of_block hb).trans h.c1, (World.cell?_of_block hb).trans h.c2, (World.cell?_of_block hb).trans h.c3, (World.cell?_of_block hb).trans h.c4, (World.cell?_of_block hb).trans h.c5, (World.cell?_of_block hb).trans h.c6, fun j => frozen_of hb (h.fz j), by
    have := Array.getElem?_eq_getElem h.lt
    rw [this] at hb
    exact (Array.getElem?_eq_some_iff.1 hb).1⟩
theorem CBox.later {b : Nat} {c : Ch} {W W' : World} (h : CBox b c W) (hb : Below W.heap.size W W') : CBox b c W' := h.block (hb.block b h.lt)
theorem CBox.put {b l : Nat} {c : Ch} {W : World} (h : CBox b c W) (o : Obj) (hl : l ≠ b) : CBox b c (W.putObj l o) := h.block (World.putObj_heap_other (fun e => hl e.symm))
theorem CBox.grown {b : Nat} {c : Ch} {W W' : World} {row : Option Nat} (h : CBox b c W) (hg : W.grownBy W' row) (hr : row ≠ some b) : CBox b c W' := h.block (hg.block b h.lt (fun e => hr e.symm))
theorem CBox.set {g : Nat} {c : Ch} {X : World} (h : CBox g c X) (d : Ch) : CBox g d (((((((X.setCell ⟨g, 0, none⟩ (.string d.path)).setCell ⟨g, 1, none⟩ (.bool d.old.there)).setCell ⟨g, 2, none⟩ (.string d.old.text)).setCell ⟨g, 3, none⟩ (.bool d.old.runs)).setCell ⟨g, 4, none⟩ (.bool d.new.there)).setCell ⟨g, 5, none⟩ (.string d.new.text)).setCell ⟨g, 6, none⟩ (.bool d.new.runs)) := by
  obtain ⟨z0, z1, z2, z3, z4, z5, z6⟩ := box7_set (.string d.path) (.bool d.old.there) (.string d.old.text) (.bool d.old.runs) (.bool d.new.there) (.string d.new.text) (.bool d.new.runs) h.c0 h.c1 h.c2 h.c3 h.c4 h.c5 h.c6
  exact ⟨z0, z1, z2, z3, z4, z5, z6, fun j => (box7_fz (.string d.path) (.bool d.old.there) (.string d.old.text) (.bool d.old.runs) (.bool d.new.there) (.string d.new.text) (.bool d.new.runs)).trans (h.fz j), by simpa using h.lt⟩
end Go.Proofs.Ytjlflmbifeocbaa

namespace Go.Proofs.Ytjlflmbifeocbaa
open Go.RowKit

set_option maxRecDepth 20000 in
set_option maxHeartbeats 1000000 in
theorem stay_any (p : ByteArray) (f : Fl) (w : World) : Calls Try.prog 39 #[.string p, .agg #[.bool f.there, .string f.text, .bool f.runs]] w fun e w' => e = .returned (.agg #[.string p, .bool f.there, .string f.text, .bool f.runs, .bool f.there, .string f.text, .bool f.runs]) ∧ Below w.heap.size w w' := by
  have hal : Below w.heap.size w (w.alloc (.cells #[.bool f.there, .string f.text, .bool f.runs] 54)) := (Below.refl _ _).alloc (Nat.le_refl _) _
  have hal2 : Below w.heap.size w ((w.alloc (.cells #[.bool f.there, .string f.text, .bool f.runs] 54)).alloc (.cells #[.string ⟨#[]⟩, .bool false, .string ⟨#[]⟩, .bool false, .bool false, .string ⟨#[]⟩, .bool false] 68)) := hal.alloc (by simp) _
  go_enter Try.func39, Try.ntmps39
  go_wp2
  refine bodyPost_ret (v := .agg #[.string p, .bool f.there, .string f.text, .bool f.runs, .bool f.there, .string f.text, .bool f.runs]) ?_ rfl ⟨rfl, ?_⟩
  · go_light
    simp [results, Try.results39, go_sem]
  · first | exact hal.alloc (by simp) _ | exact box7_below _ _ _ _ _ _ _ hal2 (by omega)
end Go.Proofs.Ytjlflmbifeocbaa

namespace Go.Proofs.Ytjlflmbifeocbaa
open Go.RowKit Go.Shelf

theorem sideC_iter (Ba Bb : Nat) (a b : Option Addr) (ca cb : Nat) (ts us : List Ch) (hca : ts.length ≤ ca) (hcb : us.length ≤ cb) (hnt : ts.length ≤ 1048576) (hnu : us.length ≤ 1048576) :
    Iter 63 #[.pointer (some ⟨Ba, 0, none⟩), .pointer (some ⟨Bb, 0, none⟩)] yC (mrgC ts us) (sideMemC Ba Bb a b ca cb ts us) :=
  fun n l J Jx W hM hJ hY h0 => sideC1_in n l Ba Bb a b ca cb ts us hca hcb hnt hnu J Jx W hM hJ hY h0

theorem OutCh.own_lt {h : Nat} {W0 W : World} {v : Value} {us : List Ch} (s : OutCh h W0 v us W) {k : Nat} (hk : v.ownBlock = some k) : k < W.heap.size := by
  rcases s.row.2 with ⟨e, _⟩ | ⟨g, cap, cur, e, _, hg, _⟩
  · rw [e] at hk; simp [Value.ownBlock] at hk
  · rw [e] at hk; simp [Value.ownBlock] at hk; subst hk; exact (Array.getElem?_eq_some_iff.1 hg).1
theorem OutCh.other {h B : Nat} {W0 W W' : World} {v : Value} {us : List Ch} (s : OutCh h W0 v us W) (hg : W.grownBy W' (some B)) (hB : W0.heap.size ≤ B) (hv : v.ownBlock ≠ some B) : OutCh h W0 v us W' := by
  have hl := s.lt
  have hh := hg.block h s.size (fun e => by cases e; omega)
  refine ⟨(World.cell?_of_block hh).trans s.cell, frozen_of hh s.fz, s.row.kept hg (Or.inr hv), ⟨hg.os.trans s.grown.os, hg.tape.trans s.grown.tape, hg.output.trans s.grown.output, Nat.le_trans s.grown.size hg.size, fun k hk hne => ?_⟩, hl⟩
  exact (hg.block k (Nat.lt_of_lt_of_le hk s.grown.size) (fun e => by cases e; omega)).trans (s.grown.block k hk hne)
theorem OutCh.putJ {h l : Nat} {W0 W : World} {v : Value} {us : List Ch} (s : OutCh h W0 v us W) (o : Obj) (hl : l < W0.heap.size) (hne : l ≠ h) : OutCh h (W0.putObj l o) v us (W.putObj l o) := by
  have hb : ∀ (X : World) (k : Nat), k ≠ l → (X.putObj l o).heap[k]? = X.heap[k]? := fun X k hk => World.putObj_heap_other hk
  have hh := hb W h (fun e => hne e.symm)
  have hg : W.grownBy (W.putObj l o) (some l) := ⟨rfl, rfl, rfl, by simp, fun k _ hk => hb W k (fun e => hk (by rw [e]))⟩
  have hlW := Nat.lt_of_lt_of_le hl s.grown.size
  refine ⟨(World.cell?_of_block hh).trans s.cell, frozen_of hh s.fz, ?_, ⟨s.grown.os, s.grown.tape, s.grown.output, by simpa using s.grown.size, fun k hk hkh => ?_⟩, by simpa using s.lt⟩
  · have h1 := s.row.kept hg (Or.inr (fun e => by have := owns_row_ge s.row e; omega))
    simpa using h1
  · have hk' : k < W0.heap.size := by simpa using hk
    by_cases e : k = l
    · subst e
      rw [World.putObj_heap_same hlW, World.putObj_heap_same hl]
    · rw [hb W k e, hb W0 k e]
      exact s.grown.block k hk' hkh

def chgL (p : ByteArray) (f g : Fl) : List Ch := if sameF f g = true then [] else [⟨p, f, g⟩]
theorem chg_pair (ob : Nat) (Wz : World) (v : Value) (us : List Ch) (p : ByteArray) (f g : Fl) (w : World) (hst : OutCh ob Wz v us w) (hul : us.length ≤ 1048576) (hp : p.size ≤ 1048576) (hx : f.text.size ≤ 1048576) (hy : g.text.size ≤ 1048576) :
    Calls Try.prog 31 #[.pointer (some ⟨ob, 0, none⟩), .string p, .agg #[.bool f.there, .string f.text, .bool f.runs], .agg #[.bool g.there, .string g.text, .bool g.runs]] w fun e w' => e = .returned (.tuple #[]) ∧ ∃ v', OutCh ob Wz v' (us ++ chgL p f g) w' := by
  unfold chgL
  cases hs : sameF f g with
  | true =>
    refine (change_none ob p f g w hs).mono ?_
    rintro e w' ⟨rfl, hb⟩
    exact ⟨rfl, v, by simpa using hst.later hb⟩
  | false =>
    refine (change_any ob Wz v us ⟨p, f, g⟩ w hst hul hs (by show p.size ≤ _; omega) (by show f.text.size ≤ _; omega) (by show g.text.size ≤ _; omega)).mono ?_
    rintro e w' ⟨rfl, ad, cap, h⟩
    exact ⟨rfl, _, by simpa using h⟩

def outsJ (pre : List PC) : List Ch := pre.flatMap fun x => outJ2 x.1 x.2.1 x.2.2
theorem outsJ_snoc (pre : List PC) (x : PC) : outsJ (pre ++ [x]) = outsJ pre ++ outJ2 x.1 x.2.1 x.2.2 := by simp [outsJ]
theorem outsJ_len (pre : List PC) : (outsJ pre).length ≤ pre.length := by
  induction pre with
  | nil => simp [outsJ]
  | cons x pre ih =>
    have h1 : outsJ (x :: pre) = outJ2 x.1 x.2.1 x.2.2 ++ outsJ pre := by simp [outsJ]
    have h2 := outJ2_len x.1 x.2.1 x.2.2
    rw [h1, List.length_append, List.length_cons]
    omega
theorem validP_ok {cs : List Ch} (h : ValidP cs) {c : Ch} (hc : c ∈ cs) : chOk c = true := by
  obtain ⟨i, hi, rfl⟩ := List.getElem_of_mem hc
  obtain ⟨_, h1, _⟩ := h.2 i hi
  exact h1
theorem validP_asc {cs : List Ch} (h : ValidP cs) : AscK Ch.path cs := by
  have key : ∀ i, i < cs.length → ∀ j, j < i → ∀ (hi : i < cs.length) (hj : j < cs.length), Op.bytesLess cs[j].path.toList cs[i].path.toList = true := by
    intro i
    induction i with
    | zero => intro _ j hj; omega
    | succ i ih =>
      intro hi j hj hi' hj'
      obtain ⟨_, _, h1⟩ := h.2 (i + 1) hi
      have h2 := h1 i rfl (by omega)
      by_cases e : j = i
      · subst e; exact h2
      · exact less_trans (ih (by omega) j (by omega) (by omega) hj') h2
  exact List.pairwise_iff_getElem.2 fun i j hi hj hij => key j hj i hij hj hi
theorem mrgC_is {p q : List Ch} (hp : ValidP p) (hq : ValidP q) : mrgC p q = (joinNs p q).map fun n => (n, fnd Ch.path p n, fnd Ch.path q n) :=
  mrg_eq Ch.path Ch.path (p.length + q.length) p q (joinNs p q) (Nat.le_refl _) (validP_asc hp) (validP_asc hq) (joinNs_mem p q).1 (joinNs_mem p q).2
theorem outs_join {p q : List Ch} (hp : ValidP p) (hq : ValidP q) : outsJ (mrgC p q) = joinN p q (joinNs p q) := by
  rw [mrgC_is hp hq]
  unfold outsJ joinN
  rw [List.flatMap_map]
  rfl
theorem mrg_lenJ {α β : Type} (pa : α → ByteArray) (pb : β → ByteArray) : ∀ (n : Nat) (ts : List α) (us : List β), (mrg pa pb n ts us).length ≤ n
  | 0, _, _ => by simp [mrg]
  | n + 1, [], [] => by simp [mrg]
  | n + 1, [], y :: us => by have := mrg_lenJ pa pb n [] us; simp only [mrg, List.length_cons]; omega
  | n + 1, x :: ts, [] => by have := mrg_lenJ pa pb n ts []; simp only [mrg, List.length_cons]; omega
  | n + 1, x :: ts, y :: us => by
    have h1 := mrg_lenJ pa pb n ts (y :: us)
    have h2 := mrg_lenJ pa pb n (x :: ts) us
    have h3 := mrg_lenJ pa pb n ts us
    simp only [mrg]
    split
    · simp only [List.length_cons]; omega
    · split
      · simp only [List.length_cons]; omega
      · simp only [List.length_cons]; omega
/-- Which of the two lists have a path. -/
theorem mrgC_cases {p q : List Ch} (hp : ValidP p) (hq : ValidP q) {x : PC} (hx : x ∈ mrgC p q) :
    (∃ d ∈ q, x = (d.path, none, some d)) ∨ (∃ c ∈ p, x = (c.path, some c, none)) ∨ ∃ c ∈ p, ∃ d ∈ q, d.path = c.path ∧ x = (c.path, some c, some d) := by
  rw [mrgC_is hp hq] at hx
  obtain ⟨n, hn, rfl⟩ := List.mem_map.1 hx
  cases h1 : fnd Ch.path p n with
  | none =>
    cases h2 : fnd Ch.path q n with
    | none =>
      exfalso
      rcases (joinNs_mem p q).2 n |>.1 hn with ⟨z, hz, hzn⟩ | ⟨z, hz, hzn⟩
      · unfold fnd at h1
        rw [List.find?_eq_none] at h1
        exact h1 z hz (eqb_iff.2 hzn)
      · unfold fnd at h2
        rw [List.find?_eq_none] at h2
        exact h2 z hz (eqb_iff.2 hzn)
    | some d =>
      obtain ⟨h3, rfl⟩ := fnd_some h2
      exact .inl ⟨d, h3, rfl⟩
  | some c =>
    obtain ⟨h3, rfl⟩ := fnd_some h1
    cases h2 : fnd Ch.path q c.path with
    | none => exact .inr (.inl ⟨c, h3, rfl⟩)
    | some d =>
      obtain ⟨h4, h5⟩ := fnd_some h2
      exact .inr (.inr ⟨c, h3, d, h4, h5, rfl⟩)
theorem chOk_parts {c : Ch} (h : chOk c = true) : (c.path.toList == ([] : List UInt8)) = false ∧ sameF c.old c.new = false ∧ c.old.text.size ≤ 1500 ∧ c.new.text.size ≤ 1500 := by
  simp only [chOk, flOk, Bool.and_eq_true, decide_eq_true_eq, Bool.not_eq_true'] at h
  obtain ⟨⟨⟨h1, h2, _⟩, h3, _⟩, h4⟩ := h
  refine ⟨?_, h4, h2, h3⟩
  rw [Bool.eq_false_iff]
  intro e
  have e1 : c.path = ⟨#[]⟩ := WideShapes.bytes_inj (by rw [← Lib.toList_data, (by simpa using e : c.path.toList = [])])
  rw [e1] at h1
  revert h1
  decide
end Go.Proofs.Ytjlflmbifeocbaa

namespace Go.Proofs.Ytjlflmbifeocbaa
open Go.RowKit Go.Shelf

attribute [local go_sem] Oper.semAt_some

def JnI (wl : World) (ob : Nat) (pre : List PC) (W : World) : Prop :=
  (∀ x ∈ pre, clJ2 x.2.1 x.2.2 = false) ∧ ∃ Wz v, Wz.heap.size = wl.heap.size + 2 ∧ Below wl.heap.size wl Wz ∧ OutCh ob Wz v (outsJ pre) W
def JnX (w : World) (g h : Nat) (pre : List PC) (W : World) : Prop :=
  (∃ x ∈ pre, clJ2 x.2.1 x.2.2 = true) ∧ Below w.heap.size w W ∧ W.cell? ⟨g, 0, none⟩ = some (.slice none 0 0) ∧ W.cell? ⟨h, 0, none⟩ = some (.bool false)

/-- What Join gives, its room besides. -/
def JoinPostC (p q : List Ch) (w : World) (e : Ending) (w' : World) : Prop :=
  ∃ cs ok, JoinRel p q cs ok ∧ (∃ ad cap, e = .returned (.tuple #[.agg #[.slice ad cs.length cap], .bool ok]) ∧ CL w.heap.size w' ad cs ∧ cs.length ≤ cap) ∧ Below w.heap.size w w'

set_option maxRecDepth 100000 in
set_option maxHeartbeats 40000000 in
theorem implJoinC_any (a b : Option Addr) (ca cb : Nat) (ps qs : List Ch) (w : World) (hps : CS w a ps) (hqs : CS w b qs) (hn : ps.length ≤ 1048576) (hnb : qs.length ≤ 1048576) (hca : ps.length ≤ ca) (hcb : qs.length ≤ cb) (hz : ∀ c ∈ ps, c.path.size ≤ 1048576) (hzb : ∀ c ∈ qs, c.path.size ≤ 1048576) :
    Calls Try.prog 13 #[.agg #[.slice a ps.length ca], .agg #[.slice b qs.length cb]] w fun e w' => JoinPostC ps qs w e w' := by
  have hal : Below w.heap.size w ((((w.alloc (.cells #[.slice a ps.length ca] 30)).alloc (.cells #[.slice b qs.length cb] 30)).alloc (.cells #[.slice none 0 0] 30)).alloc (.cells #[.bool false] 4)) := ((((Below.refl _ _).alloc (Nat.le_refl _) _).alloc (by simp) _).alloc (by simp; omega) _).alloc (by simp; omega) _
  have m0 : ((((w.alloc (.cells #[.slice a ps.length ca] 30)).alloc (.cells #[.slice b qs.length cb] 30)).alloc (.cells #[.slice none 0 0] 30)).alloc (.cells #[.bool false] 4)).cell? ⟨w.heap.size, 0, none⟩ = some (.slice a ps.length ca) := by simp [go_sem]
  have m1 : ((((w.alloc (.cells #[.slice a ps.length ca] 30)).alloc (.cells #[.slice b qs.length cb] 30)).alloc (.cells #[.slice none 0 0] 30)).alloc (.cells #[.bool false] 4)).cell? ⟨w.heap.size + 1, 0, none⟩ = some (.slice b qs.length cb) := by simp [go_sem]
  have k0 : ((((w.alloc (.cells #[.slice a ps.length ca] 30)).alloc (.cells #[.slice b qs.length cb] 30)).alloc (.cells #[.slice none 0 0] 30)).alloc (.cells #[.bool false] 4)).cell? ⟨w.heap.size + 1 + 1, 0, none⟩ = some (.slice none 0 0) := by simp [go_sem]
  have kf : ((((w.alloc (.cells #[.slice a ps.length ca] 30)).alloc (.cells #[.slice b qs.length cb] 30)).alloc (.cells #[.slice none 0 0] 30)).alloc (.cells #[.bool false] 4)).frozen? ⟨w.heap.size + 1 + 1, 0, none⟩ = false := by simp [go_sem]
  have h0 : ((((w.alloc (.cells #[.slice a ps.length ca] 30)).alloc (.cells #[.slice b qs.length cb] 30)).alloc (.cells #[.slice none 0 0] 30)).alloc (.cells #[.bool false] 4)).cell? ⟨w.heap.size + 1 + 1 + 1, 0, none⟩ = some (.bool false) := by simp [go_sem]
  have hf : ((((w.alloc (.cells #[.slice a ps.length ca] 30)).alloc (.cells #[.slice b qs.length cb] 30)).alloc (.cells #[.slice none 0 0] 30)).alloc (.cells #[.bool false] 4)).frozen? ⟨w.heap.size + 1 + 1 + 1, 0, none⟩ = false := by simp [go_sem]
  have os0 : w.heap.size + 1 + 1 + 1 < ((((w.alloc (.cells #[.slice a ps.length ca] 30)).alloc (.cells #[.slice b qs.length cb] 30)).alloc (.cells #[.slice none 0 0] 30)).alloc (.cells #[.bool false] 4)).heap.size := by simp [go_sem]
  refine (callsIn_wide (n := 5)).1 ?_
  refine callsIn_of_wp_marks Try.func13 rfl trivial ?_ rfl
  simp only [Try.ntmps13, List.size_toArray, List.length_cons, List.length_nil, Nat.reduceAdd, Nat.reduceSub, Array.replicate_succ, Array.replicate_zero, List.push_toArray, List.append_toArray, List.nil_append, List.cons_append]
  gi_wp2_with fail
  refine ⟨trivial, ?_⟩
  refine (callsIn_wide.2 (implPatch_any a ca ps _ (hps.below hal) hn hz)).mono ?_
  rintro e w1 ⟨vb, rfl, hvb, hb1⟩
  replace m0 := cell_later hb1 m0
  replace m1 := cell_later hb1 m1
  replace k0 := cell_later hb1 k0
  replace h0 := cell_later hb1 h0
  replace kf : w1.frozen? ⟨w.heap.size + 1 + 1, 0, none⟩ = false := (hb1.frozen (p := ⟨w.heap.size + 1 + 1, 0, none⟩) (by show w.heap.size + 1 + 1 < _; omega)).trans kf
  replace hf : w1.frozen? ⟨w.heap.size + 1 + 1 + 1, 0, none⟩ = false := (hb1.frozen (p := ⟨w.heap.size + 1 + 1 + 1, 0, none⟩) os0).trans hf
  have os1 : w.heap.size + 1 + 1 + 1 < w1.heap.size := Nat.lt_of_lt_of_le os0 hb1.size
  have hbw := hal.trans (hb1.mono hal.size)
  have HV : Keep (vb = true ↔ ValidP ps) := ⟨hvb⟩
  clear hvb hb1 hal os0
  obtain ⟨ta, hta⟩ : ∃ x, x = w.heap.size := ⟨_, rfl⟩
  obtain ⟨tb, htb⟩ : ∃ x, x = w.heap.size + 1 := ⟨_, rfl⟩
  obtain ⟨g, hg⟩ : ∃ x, x = w.heap.size + 1 + 1 := ⟨_, rfl⟩
  obtain ⟨h, hh⟩ : ∃ x, x = w.heap.size + 1 + 1 + 1 := ⟨_, rfl⟩
  rw [← hh] at h0 hf ⊢
  rw [← hg] at k0 kf ⊢
  rw [← htb] at m1 ⊢
  rw [← hta] at m0 ⊢
  have HS : Keep (ta = w.heap.size ∧ tb = ta + 1 ∧ g = tb + 1 ∧ h = g + 1 ∧ h < w1.heap.size) := ⟨by omega⟩
  have hgh : ¬ g = h := by omega
  have hhg : ¬ h = g := by omega
  clear hta htb hg hh os1
  have HNO : Keep (∀ X : World, Below w.heap.size w X → ¬ (ValidP ps ∧ ValidP qs) → JoinPostC ps qs w (.returned (.tuple #[.agg #[.slice none ([] : List Ch).length 0], .bool false])) ((X.setCell ⟨g, 0, none⟩ (.slice none 0 0)).setCell ⟨h, 0, none⟩ (.bool false))) := ⟨fun X hX hnv => ⟨[], false, .inl ⟨hnv, rfl, rfl⟩, ⟨none, 0, rfl, CL.nil _ _ _, Nat.le_refl _⟩, (hX.setCell (p := ⟨g, 0, none⟩) (by have := HS.out; show _ ≤ g; omega) _).setCell (p := ⟨h, 0, none⟩) (by have := HS.out; show _ ≤ h; omega) _⟩⟩
  cases vb with
  | false =>
    have hnv : ¬ (ValidP ps ∧ ValidP qs) := fun h => by have := HV.out.2 h.1; cases this
    gi_wp2
    refine ⟨trivial, ?_⟩
    gi_wp2
    refine ⟨.tuple #[.agg #[.slice none ([] : List Ch).length 0], .bool false], ?_, HNO.out _ hbw hnv⟩
    simp [results, Try.f13, go_sem, k0, h0]
  | true =>
    have HVT : Keep (ValidP ps) := ⟨HV.out.1 rfl⟩
    gi_wp2_with fail
    refine ⟨trivial, ?_⟩
    refine (callsIn_wide.2 (implPatch_any b cb qs _ (hqs.below hbw) hnb hzb)).mono ?_
    rintro e w2 ⟨vb, rfl, hvb, hb2⟩
    have HV2 : Keep (vb = true ↔ ValidP qs) := ⟨hvb⟩
    replace m0 := cell_later hb2 m0
    replace m1 := cell_later hb2 m1
    replace k0 := cell_later hb2 k0
    replace h0 := cell_later hb2 h0
    replace kf : w2.frozen? ⟨g, 0, none⟩ = false := (hb2.frozen (p := ⟨g, 0, none⟩) (by have := HS.out; show g < _; omega)).trans kf
    replace hf : w2.frozen? ⟨h, 0, none⟩ = false := (hb2.frozen (p := ⟨h, 0, none⟩) HS.out.2.2.2.2).trans hf
    have HS2 : Keep (ta = w.heap.size ∧ tb = ta + 1 ∧ g = tb + 1 ∧ h = g + 1 ∧ h < w2.heap.size) := ⟨by have := HS.out; have := hb2.size; omega⟩
    replace hbw := hbw.trans (hb2.mono hbw.size)
    clear hvb hb2 HS HV
    cases vb with
    | false =>
      have hnv : ¬ (ValidP ps ∧ ValidP qs) := fun h => by have := HV2.out.2 h.2; cases this
      gi_wp2
      refine ⟨.tuple #[.agg #[.slice none ([] : List Ch).length 0], .bool false], ?_, HNO.out _ hbw hnv⟩
      simp [results, Try.f13, go_sem, k0, h0]
    | true =>
      have HVU : Keep (ValidP qs) := ⟨HV2.out.1 rfl⟩
      have hal2 : Below w2.heap.size w2 (w2.alloc (.cells #[.slice none 0 0] 30)) := (Below.refl _ _).alloc (Nat.le_refl _) _
      replace m0 := cell_later hal2 m0
      replace m1 := cell_later hal2 m1
      have ob0 : (((w2.alloc (.cells #[.slice none 0 0] 30)).alloc (.cells #[.slice a ps.length ca] 28)).alloc (.cells #[.slice b qs.length cb] 28)).cell? ⟨w2.heap.size, 0, none⟩ = some (.slice none 0 0) := by simp [go_sem]
      have of0 : (((w2.alloc (.cells #[.slice none 0 0] 30)).alloc (.cells #[.slice a ps.length ca] 28)).alloc (.cells #[.slice b qs.length cb] 28)).frozen? ⟨w2.heap.size, 0, none⟩ = false := by simp [go_sem]
      have ma : (((w2.alloc (.cells #[.slice none 0 0] 30)).alloc (.cells #[.slice a ps.length ca] 28)).alloc (.cells #[.slice b qs.length cb] 28)).cell? ⟨w2.heap.size + 1, 0, none⟩ = some (.slice a ps.length ca) := by simp [go_sem]
      have mb : (((w2.alloc (.cells #[.slice none 0 0] 30)).alloc (.cells #[.slice a ps.length ca] 28)).alloc (.cells #[.slice b qs.length cb] 28)).cell? ⟨w2.heap.size + 1 + 1, 0, none⟩ = some (.slice b qs.length cb) := by simp [go_sem]
      have wsz : (((w2.alloc (.cells #[.slice none 0 0] 30)).alloc (.cells #[.slice a ps.length ca] 28)).alloc (.cells #[.slice b qs.length cb] 28)).heap.size = w2.heap.size + 3 := by simp [go_sem]
      have hb3 : Below w2.heap.size w2 (((w2.alloc (.cells #[.slice none 0 0] 30)).alloc (.cells #[.slice a ps.length ca] 28)).alloc (.cells #[.slice b qs.length cb] 28)) := (((Below.refl _ _).alloc (Nat.le_refl _) _).alloc (by simp) _).alloc (by simp; omega) _
      gi_wp2_with (refine ⟨trivial, ?_⟩; gi_at_call 41; refine (callsIn_wide.2 (sideC_any a b ps.length qs.length ca cb _)).mono ?_; rintro e w' ⟨rfl, rfl⟩)
      generalize hwl : (((w2.alloc (.cells #[.slice none 0 0] 30)).alloc (.cells #[.slice a ps.length ca] 28)).alloc (.cells #[.slice b qs.length cb] 28)) = wl at *
      clear hwl
      have hbl := hbw.trans (hb3.mono hbw.size)
      have kl := cell_later hb3 k0
      have hl0 := cell_later hb3 h0
      have kfl : wl.frozen? ⟨g, 0, none⟩ = false := (hb3.frozen (p := ⟨g, 0, none⟩) (by have := HS2.out; show g < _; omega)).trans kf
      have hfl : wl.frozen? ⟨h, 0, none⟩ = false := (hb3.frozen (p := ⟨h, 0, none⟩) HS2.out.2.2.2.2).trans hf
      obtain ⟨ob, hob⟩ : ∃ ob, ob = w2.heap.size := ⟨_, rfl⟩
      rw [← hob] at ob0 of0 ma mb wsz HS2 ⊢
      have HL : Keep (ta = w.heap.size ∧ tb = ta + 1 ∧ g = tb + 1 ∧ h = g + 1 ∧ h < ob ∧ wl.heap.size = ob + 3) := ⟨by have := HS2.out; omega⟩
      have hI0 : ∀ o1 o2, JnI wl ob [] ((wl.alloc o1).alloc o2) := fun o1 o2 => by
        have hb : Below wl.heap.size wl ((wl.alloc o1).alloc o2) := ((Below.refl _ _).alloc (Nat.le_refl _) _).alloc (by simp) _
        exact ⟨(fun x hx => by cases hx), _, _, by simp, hb, OutCh.start (cell_later hb ob0) ((hb.frozen (p := ⟨ob, 0, none⟩) (by show ob < _; omega)).trans of0) (by simp; omega)⟩
      clear hb3 hob k0 kf m0 m1 HS2 HV2 hbw hal2 h0 hf
      refine range_iter2 (sideC_iter (ob + 1) (ob + 1 + 1) a b ca cb ps qs hca hcb hn hnb) (enters_of Try.func63 (by kernel_rfl) rfl) (n := 5) (by omega) rfl (fun x => rfl) (JnI wl ob) (JnX w g h)
        (fun pre W ⟨_, Wz, v, hz1, hz2, hst⟩ => ⟨hst.keep (cell_later hz2 ma) (by omega) (by omega), hst.keep (cell_later hz2 mb) (by omega) (by omega), hps.below (hst.below (hbl.trans (hz2.mono hbl.size)) (by have := HL.out; omega)), hqs.below (hst.below (hbl.trans (hz2.mono hbl.size)) (by have := HL.out; omega))⟩)
        (fun pre W W' ⟨hc, Wz, v, hz1, hz2, hst⟩ hb => ⟨hc, Wz, v, hz1, hz2, hst.later hb⟩)
        (fun pre W l o hl ⟨hc, Wz, v, hz1, hz2, hst⟩ => ⟨hc, Wz.putObj l o, v, by simpa using hz1, hz2.grown (row := some l) ⟨rfl, rfl, rfl, by simp, fun k _ hk => World.putObj_heap_other (fun e => hk (by rw [e]))⟩ hz2.size (fun j e => by cases e; omega), hst.putJ o (by omega) (by omega)⟩)
        (fun pre W l o hl ⟨hc, hb, c1, c2⟩ => ⟨hc, hb.grown (row := some l) ⟨rfl, rfl, rfl, by simp, fun k _ hk => World.putObj_heap_other (fun e => hk (by rw [e]))⟩ hb.size (fun j e => by cases e; have := HL.out; omega), (World.cell?_of_block (World.putObj_heap_other (fun e => by have := HL.out; have e2 : g = l := e; omega))).trans c1, (World.cell?_of_block (World.putObj_heap_other (fun e => by have := HL.out; have e2 : h = l := e; omega))).trans c2⟩) hI0
        (fun x B a' W => a' = { tmps := #[.agg #[.slice a ps.length ca], .agg #[.slice b qs.length cb], .pointer (some ⟨ta, 0, none⟩), .pointer (some ⟨tb, 0, none⟩), .pointer (some ⟨g, 0, none⟩), .pointer (some ⟨h, 0, none⟩), .pointer (some ⟨ob, 0, none⟩), .pointer (some ⟨B, 0, none⟩), .pointer (some ⟨B + 1, 0, none⟩), .agg #[.slice a ps.length ca], .bool true, .bool false, .bool false, .agg #[.slice b qs.length cb], .bool true, .bool false, .bool false, undef, .pointer (some ⟨ta, 0, none⟩), .slice a ps.length ca, .pointer (some ⟨tb, 0, none⟩), .slice b qs.length cb, .func (.func 63) #[] #[.pointer (some ⟨ob + 1, 0, none⟩), .pointer (some ⟨ob + 1 + 1, 0, none⟩)], cutCV (x.2.1.getD noCh), cutCV (x.2.2.getD noCh), undef, undef, undef, undef, undef, undef, undef, undef, undef, undef, undef, undef, undef, undef, undef, undef, undef, undef, undef, undef, undef, undef, undef, undef, undef, undef, undef, undef, undef, undef, undef, undef, undef, undef, undef], defers := [] } ∧ CBox B (x.2.1.getD noCh) W ∧ CBox (B + 1) (x.2.2.getD noCh) W)
        (fun x B a' W l o hl ⟨h1, h2, h3⟩ => ⟨h1, h2.put o (by omega), h3.put o (by omega)⟩) ?assign ?body ?done ?stop
      case assign =>
        intro l x W K hK
        unfold yC cutCV
        gi_wp2
        exact hK _ _ (((Below.refl _ _).alloc (Nat.le_refl _) _).alloc (by simp) _) ⟨rfl, ⟨by simp [go_sem], by simp [go_sem], by simp [go_sem], by simp [go_sem], by simp [go_sem], by simp [go_sem], by simp [go_sem], fun j => by simp [go_sem], by simp [go_sem]⟩, ⟨by simp [go_sem], by simp [go_sem], by simp [go_sem], by simp [go_sem], by simp [go_sem], by simp [go_sem], by simp [go_sem], fun j => by simp [go_sem], by simp [go_sem]⟩⟩
      case body =>
        rintro l pre x a' Wb W ⟨hnc, Wz, v, hz1, hz2, hst⟩ ⟨r, hr⟩ hB1 hbW ⟨rfl, hx, hy⟩
        have hul : (outsJ pre).length ≤ 1048576 := by
          have h1 := outsJ_len pre
          have h2 := congrArg List.length hr
          have h3 := mrg_lenJ Ch.path Ch.path (ps.length + qs.length) ps qs
          have h4 := HVT.out.1
          have h5 := HVU.out.1
          simp only [List.length_append] at h2
          unfold mrgC at h2
          omega
        have hmx : x ∈ mrgC ps qs := by rw [hr]; simp
        have hvB : v.ownBlock ≠ some Wb.heap.size := fun e => by have := hst.own_lt e; omega
        have hvB1 : v.ownBlock ≠ some (Wb.heap.size + 1) := fun e => by have := hst.own_lt e; omega
        have st := hst.later hbW
        have HE : Keep (∀ v' w', clJ2 x.2.1 x.2.2 = false → OutCh ob Wz v' (outsJ pre ++ outJ2 x.1 x.2.1 x.2.2) w' → TwoB wl.heap.size W w' ∧ JnI wl ob (pre ++ [x]) w') := ⟨fun v' w' hc h => ⟨⟨(h.grown.block _ (by omega) (fun e => by have := HL.out; cases e; omega)).trans (st.grown.block _ (by omega) (fun e => by have := HL.out; cases e; omega)).symm, (h.grown.block _ (by omega) (fun e => by have := HL.out; cases e; omega)).trans (st.grown.block _ (by omega) (fun e => by have := HL.out; cases e; omega)).symm⟩, (fun y hy => by
            rcases List.mem_append.1 hy with h' | h'
            · exact hnc y h'
            · rw [List.mem_singleton.1 h']; exact hc), Wz, v', hz1, hz2, by rw [outsJ_snoc]; exact h⟩⟩
        have HR : Keep (∀ X, clJ2 x.2.1 x.2.2 = true → OutCh ob Wz v (outsJ pre) X → TwoB wl.heap.size W ((X.setCell ⟨g, 0, none⟩ (.slice none 0 0)).setCell ⟨h, 0, none⟩ (.bool false)) ∧ JnX w g h (pre ++ [x]) ((X.setCell ⟨g, 0, none⟩ (.slice none 0 0)).setCell ⟨h, 0, none⟩ (.bool false))) := ⟨fun X hc st' => by
          have hbk : ∀ k, k ≠ g → k ≠ h → ((X.setCell ⟨g, 0, none⟩ (.slice none 0 0)).setCell ⟨h, 0, none⟩ (.bool false)).heap[k]? = X.heap[k]? := fun k h1 h2 => (Below.heap_setCell _ _ _ _ h2).trans (Below.heap_setCell _ _ _ _ h1)
          have kX := st'.keep (cell_later hz2 kl) (by have := HL.out; omega) (by have := HL.out; omega)
          have hX := st'.keep (cell_later hz2 hl0) (by have := HL.out; omega) (by have := HL.out; omega)
          refine ⟨⟨(hbk _ (by have := HL.out; omega) (by have := HL.out; omega)).trans ((st'.grown.block _ (by omega) (fun e => by have := HL.out; cases e; omega)).trans (st.grown.block _ (by omega) (fun e => by have := HL.out; cases e; omega)).symm), (hbk _ (by have := HL.out; omega) (by have := HL.out; omega)).trans ((st'.grown.block _ (by omega) (fun e => by have := HL.out; cases e; omega)).trans (st.grown.block _ (by omega) (fun e => by have := HL.out; cases e; omega)).symm)⟩, ⟨x, by simp, hc⟩, ?_, ?_, ?_⟩
          · exact ((st'.below (hbl.trans (hz2.mono hbl.size)) (by have := HL.out; omega)).setCell (p := ⟨g, 0, none⟩) (by have := HL.out; show _ ≤ g; omega) _).setCell (p := ⟨h, 0, none⟩) (by have := HL.out; show _ ≤ h; omega) _
          · exact (World.cell?_setCell_other _ _ _ _ (by intro e; exact hhg (congrArg Addr.block e))).trans (World.cell?_setCell_same _ _ _ kX)
          · exact World.cell?_setCell_same _ _ _ ((World.cell?_setCell_other _ _ _ _ (by intro e; exact hgh (congrArg Addr.block e))).trans hX)⟩
        have HK : Keep (∀ X, OutCh ob Wz v (outsJ pre) X → (X.cell? ⟨g, 0, none⟩ = some (.slice none 0 0) ∧ X.cell? ⟨h, 0, none⟩ = some (.bool false)) ∧ X.frozen? ⟨g, 0, none⟩ = false ∧ X.frozen? ⟨h, 0, none⟩ = false) := ⟨fun X st' => ⟨⟨st'.keep (cell_later hz2 kl) (by have := HL.out; omega) (by have := HL.out; omega), st'.keep (cell_later hz2 hl0) (by have := HL.out; omega) (by have := HL.out; omega)⟩, frozen_of (st'.grown.block g (by have := HL.out; omega) (fun e => by have := HL.out; cases e; omega)) ((hz2.frozen (p := ⟨g, 0, none⟩) (by have := HL.out; show g < _; omega)).trans kfl), frozen_of (st'.grown.block h (by have := HL.out; omega) (fun e => by have := HL.out; cases e; omega)) ((hz2.frozen (p := ⟨h, 0, none⟩) (by have := HL.out; show h < _; omega)).trans hfl)⟩⟩
        have HB : Keep (Wz.heap.size ≤ Wb.heap.size) := ⟨hst.grown.size⟩
        clear hst hbW hr hI0 ma mb of0 ob0 kl kfl hl0 hfl hbl hps hqs HNO hB1 wsz
        generalize Wb.heap.size = B at *
        have hBn : ¬ B = B + 1 := by omega
        have hBn2 : ¬ B + 1 = B := by omega
        rcases mrgC_cases HVT.out HVU.out hmx with ⟨d, hd, rfl⟩ | ⟨c, hc, rfl⟩ | ⟨c, hc, d, hd, hcd, rfl⟩
        · obtain ⟨p1, p2, p3, p4⟩ := chOk_parts (validP_ok HVU.out hd)
          have hdp := hzb d hd
          replace hx : CBox B noCh W := hx
          replace hy : CBox (B + 1) d W := hy
          have a0 : W.cell? ⟨B, 0, none⟩ = some (.string ⟨#[]⟩) := hx.c0
          have a1 : W.cell? ⟨B, 1, none⟩ = some (.bool false) := hx.c1
          have a2 : W.cell? ⟨B, 2, none⟩ = some (.string ⟨#[]⟩) := hx.c2
          have a3 : W.cell? ⟨B, 3, none⟩ = some (.bool false) := hx.c3
          have a4 : W.cell? ⟨B, 4, none⟩ = some (.bool false) := hx.c4
          have a5 : W.cell? ⟨B, 5, none⟩ = some (.string ⟨#[]⟩) := hx.c5
          have a6 : W.cell? ⟨B, 6, none⟩ = some (.bool false) := hx.c6
          have b0 := hy.c0
          have b1 := hy.c1
          have b2 := hy.c2
          have b3 := hy.c3
          have b4 := hy.c4
          have b5 := hy.c5
          have b6 := hy.c6
          gi_wp2_with fail
          refine ⟨trivial, ?_⟩
          refine CallsIn.mono (CallsIn.inRound l (callsIn_wide.2 (stay_any d.path d.old _))) ?_
          rintro e W1 ⟨rfl, hb1⟩
          replace hx := hx.later hb1
          replace hy := hy.later hb1
          replace st := st.later hb1
          clear a0 a1 a2 a3 a4 a5 a6 b0 b1 b2 b3 b4 b5 b6 hb1
          have a0 : W1.cell? ⟨B, 0, none⟩ = some (.string ⟨#[]⟩) := hx.c0
          have a1 : W1.cell? ⟨B, 1, none⟩ = some (.bool false) := hx.c1
          have a2 : W1.cell? ⟨B, 2, none⟩ = some (.string ⟨#[]⟩) := hx.c2
          have a3 : W1.cell? ⟨B, 3, none⟩ = some (.bool false) := hx.c3
          have a4 : W1.cell? ⟨B, 4, none⟩ = some (.bool false) := hx.c4
          have a5 : W1.cell? ⟨B, 5, none⟩ = some (.string ⟨#[]⟩) := hx.c5
          have a6 : W1.cell? ⟨B, 6, none⟩ = some (.bool false) := hx.c6
          have fz := hx.fz
          gi_upto_region 9 with fail
          have hx2 : CBox B ⟨d.path, d.old, d.old⟩ (((((((W1.setCell ⟨B, 0, none⟩ (.string d.path)).setCell ⟨B, 1, none⟩ (.bool d.old.there)).setCell ⟨B, 2, none⟩ (.string d.old.text)).setCell ⟨B, 3, none⟩ (.bool d.old.runs)).setCell ⟨B, 4, none⟩ (.bool d.old.there)).setCell ⟨B, 5, none⟩ (.string d.old.text)).setCell ⟨B, 6, none⟩ (.bool d.old.runs)) := hx.set ⟨d.path, d.old, d.old⟩
          have hy2 : CBox (B + 1) d (((((((W1.setCell ⟨B, 0, none⟩ (.string d.path)).setCell ⟨B, 1, none⟩ (.bool d.old.there)).setCell ⟨B, 2, none⟩ (.string d.old.text)).setCell ⟨B, 3, none⟩ (.bool d.old.runs)).setCell ⟨B, 4, none⟩ (.bool d.old.there)).setCell ⟨B, 5, none⟩ (.string d.old.text)).setCell ⟨B, 6, none⟩ (.bool d.old.runs)) := hy.grown (box7_grown (.string d.path) (.bool d.old.there) (.string d.old.text) (.bool d.old.runs) (.bool d.old.there) (.string d.old.text) (.bool d.old.runs)) (by simp)
          have st2 : OutCh ob Wz v (outsJ pre) (((((((W1.setCell ⟨B, 0, none⟩ (.string d.path)).setCell ⟨B, 1, none⟩ (.bool d.old.there)).setCell ⟨B, 2, none⟩ (.string d.old.text)).setCell ⟨B, 3, none⟩ (.bool d.old.runs)).setCell ⟨B, 4, none⟩ (.bool d.old.there)).setCell ⟨B, 5, none⟩ (.string d.old.text)).setCell ⟨B, 6, none⟩ (.bool d.old.runs)) := st.other (box7_grown (.string d.path) (.bool d.old.there) (.string d.old.text) (.bool d.old.runs) (.bool d.old.there) (.string d.old.text) (.bool d.old.runs)) HB.out hvB
          clear a0 a1 a2 a3 a4 a5 a6 fz hx hy st
          generalize (((((((W1.setCell ⟨B, 0, none⟩ (.string d.path)).setCell ⟨B, 1, none⟩ (.bool d.old.there)).setCell ⟨B, 2, none⟩ (.string d.old.text)).setCell ⟨B, 3, none⟩ (.bool d.old.runs)).setCell ⟨B, 4, none⟩ (.bool d.old.there)).setCell ⟨B, 5, none⟩ (.string d.old.text)).setCell ⟨B, 6, none⟩ (.bool d.old.runs)) = X at *
          have a0 := hx2.c0
          have a1 := hx2.c1
          have a2 := hx2.c2
          have a3 := hx2.c3
          have a4 := hx2.c4
          have a5 := hx2.c5
          have a6 := hx2.c6
          have b0 := hy2.c0
          have b1 := hy2.c1
          have b2 := hy2.c2
          have b3 := hy2.c3
          have b4 := hy2.c4
          have b5 := hy2.c5
          have b6 := hy2.c6
          dsimp only at a0 a1 a2 a3 a4 a5 a6
          gi_wp2_with fail
          refine ⟨trivial, ?_⟩
          refine CallsIn.mono (CallsIn.inRound l (callsIn_wide.2 (chg_pair ob Wz v (outsJ pre) d.path d.old d.new X st2 hul hdp (by omega) (by omega)))) ?_
          rintro e W4 ⟨rfl, v', st4⟩
          clear a0 a1 a2 a3 a4 a5 a6 b0 b1 b2 b3 b4 b5 b6 hx2 hy2 st2
          gi_wp2
          exact HE.out _ _ rfl (by unfold chgL at st4; rw [p2] at st4; exact st4)
        · obtain ⟨p1, p2, p3, p4⟩ := chOk_parts (validP_ok HVT.out hc)
          have hdp := hz c hc
          replace hx : CBox B c W := hx
          replace hy : CBox (B + 1) noCh W := hy
          have a0 := hx.c0
          have a1 := hx.c1
          have a2 := hx.c2
          have a3 := hx.c3
          have a4 := hx.c4
          have a5 := hx.c5
          have a6 := hx.c6
          have b0 : W.cell? ⟨B + 1, 0, none⟩ = some (.string ⟨#[]⟩) := hy.c0
          have b1 : W.cell? ⟨B + 1, 1, none⟩ = some (.bool false) := hy.c1
          have b2 : W.cell? ⟨B + 1, 2, none⟩ = some (.string ⟨#[]⟩) := hy.c2
          have b3 : W.cell? ⟨B + 1, 3, none⟩ = some (.bool false) := hy.c3
          have b4 : W.cell? ⟨B + 1, 4, none⟩ = some (.bool false) := hy.c4
          have b5 : W.cell? ⟨B + 1, 5, none⟩ = some (.string ⟨#[]⟩) := hy.c5
          have b6 : W.cell? ⟨B + 1, 6, none⟩ = some (.bool false) := hy.c6
          gi_wp2_with fail
          refine ⟨trivial, ?_⟩
          refine CallsIn.mono (CallsIn.inRound l (callsIn_wide.2 (stay_any c.path c.new _))) ?_
          rintro e W1 ⟨rfl, hb1⟩
          replace hx := hx.later hb1
          replace hy := hy.later hb1
          replace st := st.later hb1
          clear a0 a1 a2 a3 a4 a5 a6 b0 b1 b2 b3 b4 b5 b6 hb1
          have b0 : W1.cell? ⟨B + 1, 0, none⟩ = some (.string ⟨#[]⟩) := hy.c0
          have b1 : W1.cell? ⟨B + 1, 1, none⟩ = some (.bool false) := hy.c1
          have b2 : W1.cell? ⟨B + 1, 2, none⟩ = some (.string ⟨#[]⟩) := hy.c2
          have b3 : W1.cell? ⟨B + 1, 3, none⟩ = some (.bool false) := hy.c3
          have b4 : W1.cell? ⟨B + 1, 4, none⟩ = some (.bool false) := hy.c4
          have b5 : W1.cell? ⟨B + 1, 5, none⟩ = some (.string ⟨#[]⟩) := hy.c5
          have b6 : W1.cell? ⟨B + 1, 6, none⟩ = some (.bool false) := hy.c6
          have fz := hy.fz
          gi_upto_region 11 with fail
          have hy2 : CBox (B + 1) ⟨c.path, c.new, c.new⟩ (((((((W1.setCell ⟨B + 1, 0, none⟩ (.string c.path)).setCell ⟨B + 1, 1, none⟩ (.bool c.new.there)).setCell ⟨B + 1, 2, none⟩ (.string c.new.text)).setCell ⟨B + 1, 3, none⟩ (.bool c.new.runs)).setCell ⟨B + 1, 4, none⟩ (.bool c.new.there)).setCell ⟨B + 1, 5, none⟩ (.string c.new.text)).setCell ⟨B + 1, 6, none⟩ (.bool c.new.runs)) := hy.set ⟨c.path, c.new, c.new⟩
          have hx2 : CBox B c (((((((W1.setCell ⟨B + 1, 0, none⟩ (.string c.path)).setCell ⟨B + 1, 1, none⟩ (.bool c.new.there)).setCell ⟨B + 1, 2, none⟩ (.string c.new.text)).setCell ⟨B + 1, 3, none⟩ (.bool c.new.runs)).setCell ⟨B + 1, 4, none⟩ (.bool c.new.there)).setCell ⟨B + 1, 5, none⟩ (.string c.new.text)).setCell ⟨B + 1, 6, none⟩ (.bool c.new.runs)) := hx.grown (box7_grown (.string c.path) (.bool c.new.there) (.string c.new.text) (.bool c.new.runs) (.bool c.new.there) (.string c.new.text) (.bool c.new.runs)) (by simp)
          have st2 : OutCh ob Wz v (outsJ pre) (((((((W1.setCell ⟨B + 1, 0, none⟩ (.string c.path)).setCell ⟨B + 1, 1, none⟩ (.bool c.new.there)).setCell ⟨B + 1, 2, none⟩ (.string c.new.text)).setCell ⟨B + 1, 3, none⟩ (.bool c.new.runs)).setCell ⟨B + 1, 4, none⟩ (.bool c.new.there)).setCell ⟨B + 1, 5, none⟩ (.string c.new.text)).setCell ⟨B + 1, 6, none⟩ (.bool c.new.runs)) := st.other (box7_grown (.string c.path) (.bool c.new.there) (.string c.new.text) (.bool c.new.runs) (.bool c.new.there) (.string c.new.text) (.bool c.new.runs)) (by have := HB.out; omega) hvB1
          clear b0 b1 b2 b3 b4 b5 b6 fz hx hy st
          generalize (((((((W1.setCell ⟨B + 1, 0, none⟩ (.string c.path)).setCell ⟨B + 1, 1, none⟩ (.bool c.new.there)).setCell ⟨B + 1, 2, none⟩ (.string c.new.text)).setCell ⟨B + 1, 3, none⟩ (.bool c.new.runs)).setCell ⟨B + 1, 4, none⟩ (.bool c.new.there)).setCell ⟨B + 1, 5, none⟩ (.string c.new.text)).setCell ⟨B + 1, 6, none⟩ (.bool c.new.runs)) = X at *
          have a0 := hx2.c0
          have a1 := hx2.c1
          have a2 := hx2.c2
          have a3 := hx2.c3
          have a4 := hx2.c4
          have a5 := hx2.c5
          have a6 := hx2.c6
          have b0 := hy2.c0
          have b1 := hy2.c1
          have b2 := hy2.c2
          have b3 := hy2.c3
          have b4 := hy2.c4
          have b5 := hy2.c5
          have b6 := hy2.c6
          dsimp only at b0 b1 b2 b3 b4 b5 b6
          gi_wp2_with fail
          refine ⟨trivial, ?_⟩
          refine CallsIn.mono (CallsIn.inRound l (callsIn_wide.2 (chg_pair ob Wz v (outsJ pre) c.path c.old c.new X st2 hul hdp (by omega) (by omega)))) ?_
          rintro e W4 ⟨rfl, v', st4⟩
          clear a0 a1 a2 a3 a4 a5 a6 b0 b1 b2 b3 b4 b5 b6 hx2 hy2 st2
          gi_wp2
          exact HE.out _ _ rfl (by unfold chgL at st4; rw [p2] at st4; exact st4)
        · obtain ⟨p1, p2, p3, p4⟩ := chOk_parts (validP_ok HVT.out hc)
          obtain ⟨q1, q2, q3, q4⟩ := chOk_parts (validP_ok HVU.out hd)
          have hdp := hz c hc
          replace hx : CBox B c W := hx
          replace hy : CBox (B + 1) d W := hy
          have a0 := hx.c0
          have a1 := hx.c1
          have a2 := hx.c2
          have a3 := hx.c3
          have a4 := hx.c4
          have a5 := hx.c5
          have a6 := hx.c6
          have b0 := hy.c0
          have b1 := hy.c1
          have b2 := hy.c2
          have b3 := hy.c3
          have b4 := hy.c4
          have b5 := hy.c5
          have b6 := hy.c6
          cases hsm : sameF c.new d.old with
          | true =>
            have HC : Keep (clJ2 (some c) (some d) = false) := ⟨by show (!sameF c.new d.old) = false; rw [hsm]; rfl⟩
            obtain ⟨⟨h1, h2⟩, h3⟩ : (c.new.there = d.old.there ∧ c.new.text.toList = d.old.text.toList) ∧ c.new.runs = d.old.runs := by simpa [sameF] using hsm
            have h4 : c.new.text = d.old.text := WideShapes.bytes_inj (by rw [← Lib.toList_data, ← Lib.toList_data]; exact h2)
            rw [← h1] at b1
            rw [← h4] at b2
            rw [← h3] at b3
            clear hsm h1 h2 h3 h4
            gi_wp2_with fail
            refine ⟨trivial, ?_⟩
            refine CallsIn.mono (CallsIn.inRound l (callsIn_wide.2 (chg_pair ob Wz v (outsJ pre) c.path c.old d.new W st hul hdp (by omega) (by omega)))) ?_
            rintro e W4 ⟨rfl, v', st4⟩
            clear a0 a1 a2 a3 a4 a5 a6 b0 b1 b2 b3 b4 b5 b6 hx hy st
            gi_wp2
            exact HE.out _ _ HC.out st4
          | false =>
            have HC : Keep (clJ2 (some c) (some d) = true) := ⟨by show (!sameF c.new d.old) = true; rw [hsm]; rfl⟩
            obtain ⟨⟨kX, hX⟩, kfX, hfX⟩ := HK.out W st
            by_cases h1 : c.new.there = d.old.there
            · by_cases h2 : c.new.text.toList = d.old.text.toList
              · by_cases h3 : c.new.runs = d.old.runs
                · exfalso
                  rw [Bool.eq_false_iff] at hsm
                  exact hsm (by simp [sameF, h1, h2, h3])
                · gi_wp2
                  exact HR.out W HC.out st
              · gi_wp2
                exact HR.out W HC.out st
            · gi_wp2
              exact HR.out W HC.out st
      case done =>
        rintro W ⟨hnc, Wz, v, hz1, hz2, hst⟩ hK
        rw [outs_join HVT.out HVU.out] at hst
        have HNC : Keep (∀ n ∈ joinNs ps qs, clJ ps qs n = false) := ⟨fun n hn' => hnc (n, fnd Ch.path ps n, fnd Ch.path qs n) (by rw [mrgC_is HVT.out HVU.out]; exact List.mem_map.2 ⟨n, hn', rfl⟩)⟩
        have kW := hst.keep (cell_later hz2 kl) (by have := HL.out; omega) (by have := HL.out; omega)
        have hW := hst.keep (cell_later hz2 hl0) (by have := HL.out; omega) (by have := HL.out; omega)
        have kfW : W.frozen? ⟨g, 0, none⟩ = false := frozen_of (hst.grown.block g (by have := HL.out; omega) (fun e => by have := HL.out; cases e; omega)) ((hz2.frozen (p := ⟨g, 0, none⟩) (by have := HL.out; show g < _; omega)).trans kfl)
        have hfW : W.frozen? ⟨h, 0, none⟩ = false := frozen_of (hst.grown.block h (by have := HL.out; omega) (fun e => by have := HL.out; cases e; omega)) ((hz2.frozen (p := ⟨h, 0, none⟩) (by have := HL.out; show h < _; omega)).trans hfl)
        have oW := hst.cell
        have hbW := hst.below (hbl.trans (hz2.mono hbl.size)) (show w.heap.size ≤ ob by have := HL.out; omega)
        obtain ⟨ad, cap, rfl⟩ := owns_slice hst.row
        have hrm := row_roomO hst.row
        have hcl := cl_of_row hst.row
        have HZ : Keep (w.heap.size ≤ g ∧ h = g + 1 ∧ h < wl.heap.size ∧ Wz.heap.size = wl.heap.size + 2) := ⟨by have := HL.out; omega⟩
        clear hst hz2 hI0 hps hqs HNO hnc wsz
        have fin : ∀ (cs : List Ch) (ok : Bool) (ad2 : Option Addr) (cap2 : Nat), JoinRel ps qs cs ok → CL Wz.heap.size W ad2 cs → cs.length ≤ cap2 → ∃ W3, W3 = (W.setCell ⟨g, 0, none⟩ (.slice ad2 cs.length cap2)).setCell ⟨h, 0, none⟩ (.bool ok) ∧ W3.heap[wl.heap.size]? = some (.deferred (some [])) ∧ (W3.putObj wl.heap.size (.deferred none)).cell? ⟨g, 0, none⟩ = some (.slice ad2 cs.length cap2) ∧ (W3.putObj wl.heap.size (.deferred none)).cell? ⟨h, 0, none⟩ = some (.bool ok) ∧ JoinPostC ps qs w (.returned (.tuple #[.agg #[.slice ad2 cs.length cap2], .bool ok])) (W3.putObj wl.heap.size (.deferred none)) := fun cs ok ad2 cap2 hrel hcs hrm2 => by
          have hzz := HZ.out
          have hbk : ∀ k, k ≠ g → k ≠ h → ((W.setCell ⟨g, 0, none⟩ (.slice ad2 cs.length cap2)).setCell ⟨h, 0, none⟩ (.bool ok)).heap[k]? = W.heap[k]? := fun k h1 h2 => (Below.heap_setCell _ _ _ _ h2).trans (Below.heap_setCell _ _ _ _ h1)
          have hg1 := hcs.grown (row := some g) (grown_set0 W g 0 (.slice ad2 cs.length cap2)) (fun j _ hj _ e => by cases e; omega)
          have hg2 := hg1.grown (row := some h) (grown_set0 _ h 0 (.bool ok)) (fun j _ hj _ e => by cases e; omega)
          have hbW2 := (hbW.setCell (p := ⟨g, 0, none⟩) hzz.1 (.slice ad2 cs.length cap2)).setCell (p := ⟨h, 0, none⟩) (by show _ ≤ h; omega) (.bool ok)
          have kc : ((W.setCell ⟨g, 0, none⟩ (.slice ad2 cs.length cap2)).setCell ⟨h, 0, none⟩ (.bool ok)).cell? ⟨g, 0, none⟩ = some (.slice ad2 cs.length cap2) := (World.cell?_setCell_other _ _ _ _ (by intro e; exact hhg (congrArg Addr.block e))).trans (World.cell?_setCell_same _ _ _ kW)
          have hc : ((W.setCell ⟨g, 0, none⟩ (.slice ad2 cs.length cap2)).setCell ⟨h, 0, none⟩ (.bool ok)).cell? ⟨h, 0, none⟩ = some (.bool ok) := World.cell?_setCell_same _ _ _ ((World.cell?_setCell_other _ _ _ _ (by intro e; exact hgh (congrArg Addr.block e))).trans hW)
          refine ⟨_, rfl, (hbk _ (by omega) (by omega)).trans hK, ?_⟩
          generalize (W.setCell ⟨g, 0, none⟩ (.slice ad2 cs.length cap2)).setCell ⟨h, 0, none⟩ (.bool ok) = W3 at *
          have hgp : W3.grownBy (W3.putObj wl.heap.size (.deferred none)) (some wl.heap.size) := ⟨rfl, rfl, rfl, by simp, fun k _ hk => World.putObj_heap_other (fun e => hk (by rw [e]))⟩
          exact ⟨(World.cell?_of_block (World.putObj_heap_other (fun e => by have e2 : g = wl.heap.size := e; omega))).trans kc, (World.cell?_of_block (World.putObj_heap_other (fun e => by have e2 : h = wl.heap.size := e; omega))).trans hc, cs, ok, hrel, ⟨ad2, cap2, rfl, (hg2.grown hgp (fun j _ hj _ e => by cases e; omega)).mono (by omega), hrm2⟩, hbW2.grown hgp hbW2.size (fun j e => by cases e; omega)⟩
        by_cases hlen : (joinN ps qs (joinNs ps qs)).length ≤ 200
        · have hlen' : ¬ (200 : Int) < (joinN ps qs (joinNs ps qs)).length := by omega
          obtain ⟨W3, hW3, hK3, kc, hc, hpost⟩ := fin (joinN ps qs (joinNs ps qs)) true ad cap (.inr ⟨HVT.out, HVU.out, .inr ⟨HNC.out, .inr ⟨hlen, rfl, rfl⟩⟩⟩) hcl hrm
          have HP : Keep _ := ⟨hpost⟩
          clear fin hcl hbW hpost hrm
          gi_wp2
          rw [← hW3]
          refine ⟨by simp, .inl ⟨_, _, rfl, run_takeDeferred hK3, ?_⟩⟩
          refine ⟨_, ?_, HP.out⟩
          simp [results, Try.f13, go_sem, kc, hc]
        · have hlen' : (200 : Int) < (joinN ps qs (joinNs ps qs)).length := by omega
          obtain ⟨W3, hW3, hK3, kc, hc, hpost⟩ := fin [] false none 0 (.inr ⟨HVT.out, HVU.out, .inr ⟨HNC.out, .inl ⟨by omega, rfl, rfl⟩⟩⟩) (CL.nil _ _ _) (Nat.le_refl _)
          have HP : Keep _ := ⟨hpost⟩
          replace hW3 : W3 = (W.setCell ⟨g, 0, none⟩ (.slice none 0 0)).setCell ⟨h, 0, none⟩ (.bool false) := hW3
          clear fin hcl hbW hpost hrm
          gi_wp2
          rw [← hW3]
          refine ⟨by simp, .inl ⟨_, _, rfl, run_takeDeferred hK3, ?_⟩⟩
          refine ⟨_, ?_, HP.out⟩
          simp [results, Try.f13, go_sem, kc, hc]
      case stop =>
        rintro pre W hpre ⟨⟨x, hx, hcl⟩, hb, c1, c2⟩ hK
        have hcn : ∃ n ∈ joinNs ps qs, clJ ps qs n = true := by
          have hm := hpre.subset hx
          rw [mrgC_is HVT.out HVU.out] at hm
          obtain ⟨n, hn', rfl⟩ := List.mem_map.1 hm
          exact ⟨n, hn', hcl⟩
        clear wsz
        gi_wp2
        refine ⟨by simp, .inl ⟨_, _, rfl, run_takeDeferred hK, ?_⟩⟩
        have hgp : W.grownBy (W.putObj wl.heap.size (.deferred none)) (some wl.heap.size) := ⟨rfl, rfl, rfl, by simp, fun k _ hk => World.putObj_heap_other (fun e => hk (by rw [e]))⟩
        have kc : (W.putObj wl.heap.size (.deferred none)).cell? ⟨g, 0, none⟩ = some (.slice none 0 0) := (World.cell?_of_block (World.putObj_heap_other (fun e => by have := HL.out; have e2 : g = wl.heap.size := e; omega))).trans c1
        have hc : (W.putObj wl.heap.size (.deferred none)).cell? ⟨h, 0, none⟩ = some (.bool false) := (World.cell?_of_block (World.putObj_heap_other (fun e => by have := HL.out; have e2 : h = wl.heap.size := e; omega))).trans c2
        refine ⟨.tuple #[.agg #[.slice none ([] : List Ch).length 0], .bool false], ?_, [], false, .inr ⟨HVT.out, HVU.out, .inl ⟨hcn, rfl, rfl⟩⟩, ⟨none, 0, rfl, CL.nil _ _ _, Nat.le_refl _⟩, hb.grown hgp hb.size (fun j e => by have := HL.out; cases e; omega)⟩
        simp [results, Try.f13, go_sem, kc, hc]
theorem implJoin_any (a b : Option Addr) (ca cb : Nat) (ps qs : List Ch) (w : World) (hps : CS w a ps) (hqs : CS w b qs) (hn : ps.length ≤ 1048576) (hnb : qs.length ≤ 1048576) (hca : ps.length ≤ ca) (hcb : qs.length ≤ cb) (hz : ∀ c ∈ ps, c.path.size ≤ 1048576) (hzb : ∀ c ∈ qs, c.path.size ≤ 1048576) :
    Calls Try.prog 13 #[.agg #[.slice a ps.length ca], .agg #[.slice b qs.length cb]] w fun e w' => JoinPost ps qs w e w' :=
  (implJoinC_any a b ca cb ps qs w hps hqs hn hnb hca hcb hz hzb).mono (fun _ _ ⟨cs, ok, h1, ⟨ad, cap, h2, h3, _⟩, h4⟩ => ⟨cs, ok, h1, ⟨ad, cap, h2, h3⟩, h4⟩)
end Go.Proofs.Ytjlflmbifeocbaa

namespace Go.Proofs.Ytjlflmbifeocbaa
open Go.RowKit

set_option maxRecDepth 100000 in
theorem mp_e (x : Value) (w : World) : (method 245 57 x "loop.example/kilntree/impl.path").run Try.prog w = .ok (109, x) w := by kernel_rfl
set_option maxRecDepth 100000 in
theorem cp_e (x : Value) (w : World) : (callFunc 109 #[x]).run Try.prog w = .ok (.enter 109 #[x]) w := by kernel_rfl

theorem pathE_any (e : En) (w : World) : Calls Try.prog 109 #[.agg #[.string e.path, .string e.text, .bool e.runs]] w fun r w' => r = .returned (.string e.path) ∧ Below w.heap.size w w' := by
  go_enter Try.func109, Try.ntmps109
  go_wp2
  go_ret
  exact ⟨rfl, (Below.refl _ _).alloc (Nat.le_refl _) _⟩
end Go.Proofs.Ytjlflmbifeocbaa

namespace Go.Proofs.Ytjlflmbifeocbaa
open Go.RowKit

set_option maxRecDepth 100000 in
set_option maxHeartbeats 4000000 in
theorem frontsEC_any (a b : Option Addr) (ca cb : Nat) (ts : List En) (us : List Ch) (w : World) (hts : ES w a ts) (hus : CS w b us) :
    Calls Try.prog 62 #[.slice a ts.length ca, .slice b us.length cb] w fun e w' => e = .returned (.int .i64 (frontG En.path Ch.path ts us)) ∧ Below w.heap.size w w' := by
  cases ts with
  | nil =>
    go_enter Try.func62, Try.ntmps62
    go_wp2
    go_ret
    exact ⟨rfl, Below.refl _ _⟩
  | cons x ts =>
    obtain ⟨b1, o1, rfl, hc1⟩ := hts.at (k := 0) (by simp)
    obtain ⟨x0, x1, x2⟩ := hc1 0 (by simp)
    simp only [List.getElem_cons_zero, Nat.zero_mul, Nat.add_zero] at x0 x1 x2
    have hl1 : (((x :: ts).length : Int) == 0) = false := by simp; omega
    have hl1' : (0 : Int) < (x :: ts).length := by rw [List.length_cons]; omega
    clear hc1 hts
    cases us with
    | nil =>
      generalize (x :: ts).length = n1 at *
      go_enter Try.func62, Try.ntmps62
      go_wp2
      go_ret
      exact ⟨rfl, Below.refl _ _⟩
    | cons y us =>
      obtain ⟨b2, o2, rfl, hc2⟩ := hus.at (k := 0) (by simp)
      obtain ⟨y0, y1, y2, y3, y4, y5, y6⟩ := hc2 0 (by simp)
      simp only [List.getElem_cons_zero, Nat.zero_mul, Nat.add_zero] at y0 y1 y2 y3 y4 y5 y6
      have hl2 : (((y :: us).length : Int) == 0) = false := by simp; omega
      have hl2' : (0 : Int) < (y :: us).length := by rw [List.length_cons]; omega
      clear hc2 hus
      generalize (x :: ts).length = n1 at *
      generalize (y :: us).length = n2 at *
      have cx0 : ∀ z : Later w, z.world.cell? ⟨b1, o1, none⟩ = some (.string x.path) := fun z => cell_later z.kept x0
      have cx1 : ∀ z : Later w, z.world.cell? ⟨b1, o1 + 1, none⟩ = some (.string x.text) := fun z => cell_later z.kept x1
      have cx2 : ∀ z : Later w, z.world.cell? ⟨b1, o1 + 2, none⟩ = some (.bool x.runs) := fun z => cell_later z.kept x2
      have cy0 : ∀ z : Later w, z.world.cell? ⟨b2, o2, none⟩ = some (.string y.path) := fun z => cell_later z.kept y0
      have cy1 : ∀ z : Later w, z.world.cell? ⟨b2, o2 + 1, none⟩ = some (.bool y.old.there) := fun z => cell_later z.kept y1
      have cy2 : ∀ z : Later w, z.world.cell? ⟨b2, o2 + 2, none⟩ = some (.string y.old.text) := fun z => cell_later z.kept y2
      have cy3 : ∀ z : Later w, z.world.cell? ⟨b2, o2 + 3, none⟩ = some (.bool y.old.runs) := fun z => cell_later z.kept y3
      have cy4 : ∀ z : Later w, z.world.cell? ⟨b2, o2 + 4, none⟩ = some (.bool y.new.there) := fun z => cell_later z.kept y4
      have cy5 : ∀ z : Later w, z.world.cell? ⟨b2, o2 + 5, none⟩ = some (.string y.new.text) := fun z => cell_later z.kept y5
      have cy6 : ∀ z : Later w, z.world.cell? ⟨b2, o2 + 6, none⟩ = some (.bool y.new.runs) := fun z => cell_later z.kept y6
      have HC1 : Keep (∀ z : Later w, Calls Try.prog 109 #[.agg #[.string x.path, .string x.text, .bool x.runs]] z.world fun e w'' => e = .returned (.string x.path) ∧ ∃ q : Later w, w'' = q.world) := ⟨fun z => Later.call z (pathE_any x _)⟩
      have HC2 : Keep (∀ z : Later w, Calls Try.prog 111 #[.agg #[.string y.path, .bool y.old.there, .string y.old.text, .bool y.old.runs, .bool y.new.there, .string y.new.text, .bool y.new.runs]] z.world fun e w'' => e = .returned (.string y.path) ∧ ∃ q : Later w, w'' = q.world) := ⟨fun z => Later.call z (pathC_any y _)⟩
      have HC3 : Keep (∀ z : Later w, Calls Try.prog 71 #[.string x.path, .string y.path] z.world fun e w'' => e = .returned (.int .i64 (Lib.compareBytes x.path.data.toList y.path.data.toList)) ∧ ∃ q : Later w, w'' = q.world) := ⟨fun z => Later.call z ((compare_any x.path y.path z.world).mono (fun e w' h => ⟨h.1, by rw [h.2]; exact Below.refl _ _⟩))⟩
      have HCM : Keep (frontG En.path Ch.path (x :: ts) (y :: us) = Lib.compareBytes x.path.data.toList y.path.data.toList) := ⟨rfl⟩
      clear x0 x1 x2 y0 y1 y2 y3 y4 y5 y6
      have hmp := mp_e
      have hcp := cp_e
      have hmp2 := mp_c
      have hcp2 := cp_c
      go_enter Try.func62, Try.ntmps62
      go_upto_region 5 with fail
      (haveI := later_any; refine wp_region_later (by kernel_rfl) (by kernel_rfl) ?_; (repeat (go_big_quiet_step (first | (go_at_call_of 109 ([Value.agg #[.string x.path, .string x.text, .bool x.runs]] : List Value); exact HC1.out _) | (go_at_call_of 111 ([Value.agg #[.string y.path, .bool y.old.there, .string y.old.text, .bool y.old.runs, .bool y.new.there, .string y.new.text, .bool y.new.runs]] : List Value); exact HC2.out _) | (go_at_call 71; exact HC3.out _)))); refine wpQuiet_nil ?_; intro _ hwq; obtain ⟨xq, hwq2⟩ := hwq; subst hwq2)
      go_wp2
      go_ret
      exact ⟨by rw [HCM.out]; rfl, xq.kept⟩
end Go.Proofs.Ytjlflmbifeocbaa

namespace Go.Proofs.Ytjlflmbifeocbaa
open Go.RowKit

/-- The entry that is nothing. -/
def zeroE : En := ⟨⟨#[]⟩, ⟨#[]⟩, false⟩
def cutEV (e : En) : Value := .agg #[.string e.path, .string e.text, .bool e.runs]

set_option maxRecDepth 100000 in
theorem cutEn (a : Option Addr) (cp : Nat) (ts : List En) (k : Nat) (hk : k ≤ ts.length) (hc : ts.length ≤ cp) : ∃ ad' c', (∀ w1, (Instr.sliceAt 23 (.slice a ts.length cp) (some (.int .i64 (k : Int))) none none).run Try.prog w1 = .ok (.slice ad' (ts.drop k).length c') w1) ∧ ∀ W, ES W a ts → ES W ad' (ts.drop k) := by
  have hrun : ∀ w1, (Instr.sliceAt 23 (.slice a ts.length cp) (some (.int .i64 (k : Int))) none none).run Try.prog w1 = .ok (sliced a k ts.length cp 3) w1 := fun w1 => by
    rw [run_sliceAt_slice w1 _ _ _ _ _ Try.underlying23, run_slice_l w1 _ _ _ _ Try.underlying23 .i64 (k : Int) (by omega) (by omega)]
    have hz : (sizeOf (Try.prog.elem 23)).run Try.prog w1 = .ok 3 w1 := by kernel_rfl
    rw [hz, show (k : Int).toNat = k by omega]
    rfl
  refine ⟨if cp = k then a else a.map (·.add (k * 3)), cp - k, fun w1 => by rw [hrun w1, List.length_drop]; rfl, fun W hE => ?_⟩
  rcases hE with h | ⟨b, off, rfl, hcl⟩
  · subst h; exact .inl (by simp)
  · by_cases hl : k = ts.length
    · subst hl; exact .inl (by simp)
    · rw [if_neg (by omega)]
      refine .inr ⟨b, off + k * 3, by rw [Option.map_some, WideShapes.add_plain], fun i hi => ?_⟩
      rw [List.length_drop] at hi
      obtain ⟨c0, c1, c2⟩ := hcl (k + i) (by omega)
      rw [List.getElem_drop]
      rw [show off + k * 3 + i * 3 = off + (k + i) * 3 by omega]
      exact ⟨c0, c1, c2⟩

theorem ES.cells {w : World} {b off : Nat} {ts : List En} (h : ES w (some ⟨b, off, none⟩) ts) {k : Nat} (hk : k < ts.length) :
    w.cell? ⟨b, off + k * 3, none⟩ = some (.string ts[k].path) ∧ w.cell? ⟨b, off + k * 3 + 1, none⟩ = some (.string ts[k].text) ∧ w.cell? ⟨b, off + k * 3 + 2, none⟩ = some (.bool ts[k].runs) := by
  obtain ⟨b', o', ha, hc⟩ := h.at hk
  simp only [Option.some.injEq, Addr.mk.injEq, and_true] at ha
  obtain ⟨rfl, rfl⟩ := ha
  exact hc k hk

theorem box3_set {X : World} {g : Nat} {u0 u1 u2 : Value} (v0 v1 v2 : Value) (h0 : X.cell? ⟨g, 0, none⟩ = some u0) (h1 : X.cell? ⟨g, 1, none⟩ = some u1) (h2 : X.cell? ⟨g, 2, none⟩ = some u2) :
    (((X.setCell ⟨g, 0, none⟩ v0).setCell ⟨g, 1, none⟩ v1).setCell ⟨g, 2, none⟩ v2).cell? ⟨g, 0, none⟩ = some v0 ∧ (((X.setCell ⟨g, 0, none⟩ v0).setCell ⟨g, 1, none⟩ v1).setCell ⟨g, 2, none⟩ v2).cell? ⟨g, 1, none⟩ = some v1 ∧ (((X.setCell ⟨g, 0, none⟩ v0).setCell ⟨g, 1, none⟩ v1).setCell ⟨g, 2, none⟩ v2).cell? ⟨g, 2, none⟩ = some v2 := by
  refine ⟨?_, ?_, ?_⟩
  · rw [World.cell?_setCell_other _ _ _ _ (by simp), World.cell?_setCell_other _ _ _ _ (by simp)]; exact World.cell?_setCell_same _ _ _ h0
  · rw [World.cell?_setCell_other _ _ _ _ (by simp)]; exact World.cell?_setCell_same _ _ _ ((World.cell?_setCell_other _ _ _ _ (by simp)).trans h1)
  · exact World.cell?_setCell_same _ _ _ ((World.cell?_setCell_other _ _ _ _ (by simp)).trans ((World.cell?_setCell_other _ _ _ _ (by simp)).trans h2))
theorem box3_other {X : World} {g h j : Nat} (v0 v1 v2 : Value) (hn : ¬ g = h) : (((X.setCell ⟨g, 0, none⟩ v0).setCell ⟨g, 1, none⟩ v1).setCell ⟨g, 2, none⟩ v2).cell? ⟨h, j, none⟩ = X.cell? ⟨h, j, none⟩ := by
  have hne : ∀ k, (⟨g, k, none⟩ : Addr) ≠ ⟨h, j, none⟩ := fun k e => hn (congrArg Addr.block e)
  rw [World.cell?_setCell_other _ _ _ _ (hne _), World.cell?_setCell_other _ _ _ _ (hne _), World.cell?_setCell_other _ _ _ _ (hne _)]
theorem box3_below {w X : World} {g : Nat} (v0 v1 v2 : Value) (hX : Below w.heap.size w X) (hg : w.heap.size ≤ g) : Below w.heap.size w (((X.setCell ⟨g, 0, none⟩ v0).setCell ⟨g, 1, none⟩ v1).setCell ⟨g, 2, none⟩ v2) :=
  (((hX.setCell (p := ⟨g, 0, none⟩) hg _).setCell (p := ⟨g, 1, none⟩) hg _).setCell (p := ⟨g, 2, none⟩) hg _)
theorem box3_fz {X : World} {g : Nat} {p : Addr} (v0 v1 v2 : Value) : (((X.setCell ⟨g, 0, none⟩ v0).setCell ⟨g, 1, none⟩ v1).setCell ⟨g, 2, none⟩ v2).frozen? p = X.frozen? p := by
  rw [World.frozen?_setCell, World.frozen?_setCell, World.frozen?_setCell]
end Go.Proofs.Ytjlflmbifeocbaa

namespace Go.Proofs.Ytjlflmbifeocbaa
open Go.RowKit Go.Shelf

attribute [local go_sem] Oper.semAt_some

abbrev PEC : Type := ByteArray × Option En × Option Ch
def yEC (x : PEC) : Array Value := #[cutEV (x.2.1.getD zeroE), cutCV (x.2.2.getD noCh)]

theorem two_boxesEC {w A X : World} {t t2 : TypeId} (hA : A = (w.alloc (.cells #[.string ⟨#[]⟩, .string ⟨#[]⟩, .bool false] t)).alloc (.cells #[.string ⟨#[]⟩, .bool false, .string ⟨#[]⟩, .bool false, .bool false, .string ⟨#[]⟩, .bool false] t2)) (hb : Below A.heap.size A X) :
    (X.cell? ⟨w.heap.size, 0, none⟩ = some (.string ⟨#[]⟩) ∧ X.cell? ⟨w.heap.size, 1, none⟩ = some (.string ⟨#[]⟩) ∧ X.cell? ⟨w.heap.size, 2, none⟩ = some (.bool false)) ∧ (X.cell? ⟨w.heap.size + 1, 0, none⟩ = some (.string ⟨#[]⟩) ∧ X.cell? ⟨w.heap.size + 1, 1, none⟩ = some (.bool false) ∧ X.cell? ⟨w.heap.size + 1, 2, none⟩ = some (.string ⟨#[]⟩) ∧ X.cell? ⟨w.heap.size + 1, 3, none⟩ = some (.bool false) ∧ X.cell? ⟨w.heap.size + 1, 4, none⟩ = some (.bool false) ∧ X.cell? ⟨w.heap.size + 1, 5, none⟩ = some (.string ⟨#[]⟩) ∧ X.cell? ⟨w.heap.size + 1, 6, none⟩ = some (.bool false)) ∧ (∀ j, X.frozen? ⟨w.heap.size, j, none⟩ = false) ∧ ∀ j, X.frozen? ⟨w.heap.size + 1, j, none⟩ = false := by
  have hl : w.heap.size + 1 < A.heap.size := by rw [hA]; simp
  refine ⟨⟨cell_later hb (by rw [hA]; simp [go_sem]), cell_later hb (by rw [hA]; simp [go_sem]), cell_later hb (by rw [hA]; simp [go_sem])⟩, ⟨cell_later hb (by rw [hA]; simp [go_sem]), cell_later hb (by rw [hA]; simp [go_sem]), cell_later hb (by rw [hA]; simp [go_sem]), cell_later hb (by rw [hA]; simp [go_sem]), cell_later hb (by rw [hA]; simp [go_sem]), cell_later hb (by rw [hA]; simp [go_sem]), cell_later hb (by rw [hA]; simp [go_sem])⟩, fun j => ?_, fun j => ?_⟩
  · exact (hb.frozen (p := ⟨w.heap.size, j, none⟩) (by show w.heap.size < _; omega)).trans (by rw [hA]; simp [go_sem])
  · exact (hb.frozen (p := ⟨w.heap.size + 1, j, none⟩) (by show w.heap.size + 1 < _; omega)).trans (by rw [hA]; simp [go_sem])

def sideMemEC (Ba Bb : Nat) (a b : Option Addr) (ca cb : Nat) (ts : List En) (us : List Ch) (W : World) : Prop :=
  W.cell? ⟨Ba, 0, none⟩ = some (.slice a ts.length ca) ∧ W.cell? ⟨Bb, 0, none⟩ = some (.slice b us.length cb) ∧ ES W a ts ∧ CS W b us

def mrgEC (ts : List En) (us : List Ch) : List PEC := mrg En.path Ch.path (ts.length + us.length) ts us

set_option maxRecDepth 100000 in
set_option maxHeartbeats 8000000 in
theorem sideEC1_in (n l Ba Bb : Nat) (a b : Option Addr) (ca cb : Nat) (ts : List En) (us : List Ch) (hca : ts.length ≤ ca) (hcb : us.length ≤ cb) (hnt : ts.length ≤ 1048576) (hnu : us.length ≤ 1048576)
    (J Jx : List PEC → World → Prop) (W : World)
    (hM : ∀ pre W1, J pre W1 → sideMemEC Ba Bb a b ca cb ts us W1)
    (hJ : ∀ pre W1 W2, J pre W1 → Below W1.heap.size W1 W2 → J pre W2)
    (hY : ∀ pre x W1, J pre W1 → (∃ r, mrgEC ts us = (pre ++ [x]) ++ r) → YieldAt Fence.wide (n - 1) Try.prog l (yEC x) W1 fun e W' =>
      (e = .returned (.bool true) ∧ J (pre ++ [x]) W') ∨ (e = .returned (.bool false) ∧ Jx (pre ++ [x]) W'))
    (h0 : J [] W) :
    CallsIn Fence.wide n Try.prog 61 #[.func (.yield l) #[] #[], .pointer (some ⟨Ba, 0, none⟩), .pointer (some ⟨Bb, 0, none⟩)] W fun e W' => (∃ v, e = .returned v) ∧
      (J (mrgEC ts us) W' ∨ (∃ pre, pre <+: mrgEC ts us ∧ Jx pre W')) := by
  refine callsIn_of_wp Try.func61 rfl trivial ?_ rfl
  simp only [Try.ntmps61, List.size_toArray, List.length_cons, List.length_nil, Nat.reduceAdd, Nat.reduceSub, Array.replicate_succ, Array.replicate_zero, List.push_toArray, List.append_toArray, List.nil_append, List.cons_append]
  gi_wp2
  gi_loopw [4, 5] (fun i j wr => ∃ (p q f : Nat) (pre : List PEC), i = .int .i64 p ∧ j = .int .i64 q ∧ p ≤ ts.length ∧ q ≤ us.length ∧ (ts.length - p) + (us.length - q) ≤ f ∧ mrgEC ts us = pre ++ mrg En.path Ch.path f (ts.drop p) (us.drop q) ∧ J pre wr)
    (fun i j _ => (ts.length - (intOf i).toNat) + (us.length - (intOf j).toNat))
  case atStart => exact ⟨0, 0, ts.length + us.length, [], rfl, rfl, Nat.zero_le _, Nat.zero_le _, by omega, by simp [mrgEC], h0⟩
  case round =>
    obtain ⟨p, q, f, pre, rfl, rfl, hp, hq, hf, hm, hJs⟩ := hrel
    obtain ⟨m1, m2, e1, e2⟩ := hM pre wr hJs
    by_cases hend : p = ts.length ∧ q = us.length
    · obtain ⟨rfl, rfl⟩ := hend
      have hE : mrgEC ts us = pre := by
        rw [hm]
        cases f with
        | zero => simp [mrg]
        | succ f => simp [mrg]
      gi_wp2
      go_end0
      exact ⟨⟨_, rfl⟩, .inl (by rw [hE]; exact hJs)⟩
    · obtain ⟨ad1, c1, hs1, hes1⟩ := cutEn a ca ts p hp hca
      obtain ⟨ad2, c2, hs2, hes2⟩ := cutC b cb us q hq hcb
      have hal : Below wr.heap.size wr ((wr.alloc (.cells #[.string ⟨#[]⟩, .string ⟨#[]⟩, .bool false] 57)).alloc (.cells #[.string ⟨#[]⟩, .bool false, .string ⟨#[]⟩, .bool false, .bool false, .string ⟨#[]⟩, .bool false] 68)) := ((Below.refl _ _).alloc (Nat.le_refl _) _).alloc (by simp) _
      obtain ⟨A, hA⟩ : ∃ A, A = (wr.alloc (.cells #[.string ⟨#[]⟩, .string ⟨#[]⟩, .bool false] 57)).alloc (.cells #[.string ⟨#[]⟩, .bool false, .string ⟨#[]⟩, .bool false, .bool false, .string ⟨#[]⟩, .bool false] 68) := ⟨_, rfl⟩
      rw [← hA] at hal
      have cm1 : ∀ z : Later A, z.world.cell? ⟨Ba, 0, none⟩ = some (.slice a ts.length ca) := fun z => cell_later z.kept (cell_later hal m1)
      have cm2 : ∀ z : Later A, z.world.cell? ⟨Bb, 0, none⟩ = some (.slice b us.length cb) := fun z => cell_later z.kept (cell_later hal m2)
      have HF : Keep (∀ z : Later A, Calls Try.prog 62 #[.slice ad1 (ts.drop p).length c1, .slice ad2 (us.drop q).length c2] z.world fun e w'' => e = .returned (.int .i64 (frontG En.path Ch.path (ts.drop p) (us.drop q))) ∧ ∃ y : Later A, w'' = y.world) := ⟨fun z => Later.call z (frontsEC_any ad1 ad2 c1 c2 (ts.drop p) (us.drop q) z.world (hes1 _ ((e1.below hal).below z.kept)) (hes2 _ ((e2.below hal).below z.kept)))⟩
      generalize hda : (ts.drop p).length = na at hs1 HF
      generalize hdb : (us.drop q).length = nb at hs2 HF
      obtain ⟨f, rfl⟩ : ∃ f', f = f' + 1 := ⟨f - 1, by omega⟩
      have hnn : ¬ (ts.drop p = [] ∧ us.drop q = []) := fun h => hend ⟨by have := congrArg List.length h.1; simp at this; omega, by have := congrArg List.length h.2; simp at this; omega⟩
      generalize ho : frontG En.path Ch.path (ts.drop p) (us.drop q) = o at HF
      rcases Int.lt_trichotomy o 0 with hlt | heq | hgt
      · obtain ⟨x, tr, hd, hmr⟩ := frontG_lt (f := f) (by rw [ho]; exact hlt)
        obtain ⟨hpl, rfl, rfl⟩ := drop_cons hd
        rw [hmr] at hm
        rw [List.append_cons] at hm
        obtain ⟨b1, o1, rfl, hc1⟩ := e1.at hpl
        have hpl' : (p : Int) < ts.length := by omega
        have ho1 : o ≤ 0 := by omega
        have ho2 : ¬ 0 ≤ o := by omega
        clear hc1 hd hmr hnn ho hend hlt
        gi_wp2
        rw [← hA]
        refine wpIn_wide.2 ?_
        (haveI := later_any; refine wp_region_later (by kernel_rfl) (by kernel_rfl) ?_; (repeat (go_big_quiet_step (first | (go_at_call 62; exact HF.out _)))); refine wpQuiet_nil ?_; intro _ hwq; obtain ⟨xq, hwq2⟩ := hwq; subst hwq2)
        have hX := hal.trans (xq.kept.mono hal.size)
        obtain ⟨⟨b60, b61, b62⟩, ⟨b70, b71, b72, b73, b74, b75, b76⟩, f6, f7⟩ := two_boxesEC hA xq.kept
        have HE1 : Keep (ES wr (some ⟨b1, o1, none⟩) ts) := ⟨e1⟩
        have HE2 : Keep (CS wr b us) := ⟨e2⟩
        have HM1 : Keep (wr.cell? ⟨Ba, 0, none⟩ = some (.slice (some ⟨b1, o1, none⟩) ts.length ca)) := ⟨m1⟩
        have HM2 : Keep (wr.cell? ⟨Bb, 0, none⟩ = some (.slice b us.length cb)) := ⟨m2⟩
        clear hs1 hs2 hes1 hes2 HF cm1 cm2 e1 e2 m1 m2 hA hal
        generalize xq.world = X at *
        clear xq
        obtain ⟨g6, hg6⟩ : ∃ g, g = wr.heap.size := ⟨_, rfl⟩
        obtain ⟨g7, hg7⟩ : ∃ g, g = wr.heap.size + 1 := ⟨_, rfl⟩
        rw [← hg7] at b70 b71 b72 b73 b74 b75 b76 f7 ⊢
        rw [← hg6] at b60 b61 b62 f6 ⊢
        have hn67 : ¬ g6 = g7 := by omega
        have HG : Keep (wr.heap.size ≤ g6 ∧ wr.heap.size ≤ g7) := ⟨by omega⟩
        clear hg6 hg7
        have q1 := cell_later hX HM1.out
        obtain ⟨x0, x1, x2⟩ := (HE1.out.below hX).cells hpl
        gi_upto_region 8 with fail
        replace hX := box3_below (.string ts[p].path) (.string ts[p].text) (.bool ts[p].runs) hX HG.out.1
        obtain ⟨z0, z1, z2⟩ := box3_set (.string ts[p].path) (.string ts[p].text) (.bool ts[p].runs) b60 b61 b62
        replace b70 := (box3_other (.string ts[p].path) (.string ts[p].text) (.bool ts[p].runs) hn67).trans b70
        replace b71 := (box3_other (.string ts[p].path) (.string ts[p].text) (.bool ts[p].runs) hn67).trans b71
        replace b72 := (box3_other (.string ts[p].path) (.string ts[p].text) (.bool ts[p].runs) hn67).trans b72
        replace b73 := (box3_other (.string ts[p].path) (.string ts[p].text) (.bool ts[p].runs) hn67).trans b73
        replace b74 := (box3_other (.string ts[p].path) (.string ts[p].text) (.bool ts[p].runs) hn67).trans b74
        replace b75 := (box3_other (.string ts[p].path) (.string ts[p].text) (.bool ts[p].runs) hn67).trans b75
        replace b76 := (box3_other (.string ts[p].path) (.string ts[p].text) (.bool ts[p].runs) hn67).trans b76
        replace f7 : ∀ j, (((X.setCell ⟨g6, 0, none⟩ (.string ts[p].path)).setCell ⟨g6, 1, none⟩ (.string ts[p].text)).setCell ⟨g6, 2, none⟩ (.bool ts[p].runs)).frozen? ⟨g7, j, none⟩ = false := fun j => (box3_fz (.string ts[p].path) (.string ts[p].text) (.bool ts[p].runs)).trans (f7 j)
        clear b60 b61 b62 x0 x1 x2 q1 f6
        generalize (((X.setCell ⟨g6, 0, none⟩ (.string ts[p].path)).setCell ⟨g6, 1, none⟩ (.string ts[p].text)).setCell ⟨g6, 2, none⟩ (.bool ts[p].runs)) = X2 at *
        clear X
        have hY3 : YieldAt Fence.wide (n - 1) Try.prog l #[.agg #[.string ts[p].path, .string ts[p].text, .bool ts[p].runs], .agg #[.string ⟨#[]⟩, .bool false, .string ⟨#[]⟩, .bool false, .bool false, .string ⟨#[]⟩, .bool false]] X2 (fun e W' => (e = .returned (.bool true) ∧ J (pre ++ [(ts[p].path, some ts[p], none)]) W') ∨ (e = .returned (.bool false) ∧ Jx (pre ++ [(ts[p].path, some ts[p], none)]) W')) := hY pre (ts[p].path, some ts[p], none) _ (hJ pre wr _ hJs hX) ⟨_, hm⟩
        obtain ⟨fn, tmps, assign, body, hy, hR⟩ := hY3
        have HM : Keep (mrgEC ts us = pre ++ [(ts[p].path, some ts[p], none)] ++ mrg En.path Ch.path f (ts.drop (p + 1)) (us.drop (q))) := ⟨hm⟩
        clear hY hJ hM hm hJs hX
        gi_wp2
        refine ⟨fun h => Bool.noConfusion h, hR.mono ?_⟩
        rintro e W3 (⟨rfl, hJ3⟩ | ⟨rfl, hJx3⟩)
        · gi_wp2
          go_roundw
          case rel => exact ⟨p + 1, q, f, pre ++ [(ts[p].path, some ts[p], none)], by congr 1, by congr 1, by omega, by omega, by omega, HM.out, hJ3⟩
          case measure => simp only [intOf]; omega
        · gi_wp2
          refine bodyPost_ret (results_none rfl _ _ _) rfl ?_
          exact ⟨⟨_, rfl⟩, .inr ⟨pre ++ [(ts[p].path, some ts[p], none)], ⟨_, HM.out.symm⟩, hJx3⟩⟩
      · obtain ⟨x, tr, y, ur, hd, hd2, hmr⟩ := frontG_eq (f := f) (by rw [ho]; exact heq)
        obtain ⟨hpl, rfl, rfl⟩ := drop_cons hd
        obtain ⟨hql, rfl, rfl⟩ := drop_cons hd2
        rw [hmr] at hm
        rw [List.append_cons] at hm
        obtain ⟨b1, o1, rfl, hc1⟩ := e1.at hpl
        obtain ⟨b2, o2, rfl, hc2⟩ := e2.at hql
        have hpl' : (p : Int) < ts.length := by omega
        have hql' : (q : Int) < us.length := by omega
        subst heq
        clear hc1 hc2 hd hd2 hmr hnn ho hend
        gi_wp2
        rw [← hA]
        refine wpIn_wide.2 ?_
        (haveI := later_any; refine wp_region_later (by kernel_rfl) (by kernel_rfl) ?_; (repeat (go_big_quiet_step (first | (go_at_call 62; exact HF.out _)))); refine wpQuiet_nil ?_; intro _ hwq; obtain ⟨xq, hwq2⟩ := hwq; subst hwq2)
        have hX := hal.trans (xq.kept.mono hal.size)
        obtain ⟨⟨b60, b61, b62⟩, ⟨b70, b71, b72, b73, b74, b75, b76⟩, f6, f7⟩ := two_boxesEC hA xq.kept
        have HE1 : Keep (ES wr (some ⟨b1, o1, none⟩) ts) := ⟨e1⟩
        have HE2 : Keep (CS wr (some ⟨b2, o2, none⟩) us) := ⟨e2⟩
        have HM1 : Keep (wr.cell? ⟨Ba, 0, none⟩ = some (.slice (some ⟨b1, o1, none⟩) ts.length ca)) := ⟨m1⟩
        have HM2 : Keep (wr.cell? ⟨Bb, 0, none⟩ = some (.slice (some ⟨b2, o2, none⟩) us.length cb)) := ⟨m2⟩
        clear hs1 hs2 hes1 hes2 HF cm1 cm2 e1 e2 m1 m2 hA hal
        generalize xq.world = X at *
        clear xq
        obtain ⟨g6, hg6⟩ : ∃ g, g = wr.heap.size := ⟨_, rfl⟩
        obtain ⟨g7, hg7⟩ : ∃ g, g = wr.heap.size + 1 := ⟨_, rfl⟩
        rw [← hg7] at b70 b71 b72 b73 b74 b75 b76 f7 ⊢
        rw [← hg6] at b60 b61 b62 f6 ⊢
        have hn67 : ¬ g6 = g7 := by omega
        have HG : Keep (wr.heap.size ≤ g6 ∧ wr.heap.size ≤ g7) := ⟨by omega⟩
        clear hg6 hg7
        have q1 := cell_later hX HM1.out
        obtain ⟨x0, x1, x2⟩ := (HE1.out.below hX).cells hpl
        gi_upto_region 8 with fail
        replace hX := box3_below (.string ts[p].path) (.string ts[p].text) (.bool ts[p].runs) hX HG.out.1
        obtain ⟨z0, z1, z2⟩ := box3_set (.string ts[p].path) (.string ts[p].text) (.bool ts[p].runs) b60 b61 b62
        replace b70 := (box3_other (.string ts[p].path) (.string ts[p].text) (.bool ts[p].runs) hn67).trans b70
        replace b71 := (box3_other (.string ts[p].path) (.string ts[p].text) (.bool ts[p].runs) hn67).trans b71
        replace b72 := (box3_other (.string ts[p].path) (.string ts[p].text) (.bool ts[p].runs) hn67).trans b72
        replace b73 := (box3_other (.string ts[p].path) (.string ts[p].text) (.bool ts[p].runs) hn67).trans b73
        replace b74 := (box3_other (.string ts[p].path) (.string ts[p].text) (.bool ts[p].runs) hn67).trans b74
        replace b75 := (box3_other (.string ts[p].path) (.string ts[p].text) (.bool ts[p].runs) hn67).trans b75
        replace b76 := (box3_other (.string ts[p].path) (.string ts[p].text) (.bool ts[p].runs) hn67).trans b76
        replace f7 : ∀ j, (((X.setCell ⟨g6, 0, none⟩ (.string ts[p].path)).setCell ⟨g6, 1, none⟩ (.string ts[p].text)).setCell ⟨g6, 2, none⟩ (.bool ts[p].runs)).frozen? ⟨g7, j, none⟩ = false := fun j => (box3_fz (.string ts[p].path) (.string ts[p].text) (.bool ts[p].runs)).trans (f7 j)
        clear b60 b61 b62 x0 x1 x2 q1 f6
        generalize (((X.setCell ⟨g6, 0, none⟩ (.string ts[p].path)).setCell ⟨g6, 1, none⟩ (.string ts[p].text)).setCell ⟨g6, 2, none⟩ (.bool ts[p].runs)) = X2 at *
        clear X
        have q2 := cell_later hX HM2.out
        obtain ⟨y0, y1, y2, y3, y4, y5, y6⟩ := (HE2.out.below hX).cells hql
        gi_upto_region 11 with fail
        replace hX := box7_below (.string us[q].path) (.bool us[q].old.there) (.string us[q].old.text) (.bool us[q].old.runs) (.bool us[q].new.there) (.string us[q].new.text) (.bool us[q].new.runs) hX HG.out.2
        obtain ⟨v0, v1, v2, v3, v4, v5, v6⟩ := box7_set (.string us[q].path) (.bool us[q].old.there) (.string us[q].old.text) (.bool us[q].old.runs) (.bool us[q].new.there) (.string us[q].new.text) (.bool us[q].new.runs) b70 b71 b72 b73 b74 b75 b76
        have hn76 : ¬ g7 = g6 := fun e => hn67 e.symm
        replace z0 := (box7_other (.string us[q].path) (.bool us[q].old.there) (.string us[q].old.text) (.bool us[q].old.runs) (.bool us[q].new.there) (.string us[q].new.text) (.bool us[q].new.runs) hn76).trans z0
        replace z1 := (box7_other (.string us[q].path) (.bool us[q].old.there) (.string us[q].old.text) (.bool us[q].old.runs) (.bool us[q].new.there) (.string us[q].new.text) (.bool us[q].new.runs) hn76).trans z1
        replace z2 := (box7_other (.string us[q].path) (.bool us[q].old.there) (.string us[q].old.text) (.bool us[q].old.runs) (.bool us[q].new.there) (.string us[q].new.text) (.bool us[q].new.runs) hn76).trans z2
        clear b70 b71 b72 b73 b74 b75 b76 y0 y1 y2 y3 y4 y5 y6 q2 f7
        generalize (((((((X2.setCell ⟨g7, 0, none⟩ (.string us[q].path)).setCell ⟨g7, 1, none⟩ (.bool us[q].old.there)).setCell ⟨g7, 2, none⟩ (.string us[q].old.text)).setCell ⟨g7, 3, none⟩ (.bool us[q].old.runs)).setCell ⟨g7, 4, none⟩ (.bool us[q].new.there)).setCell ⟨g7, 5, none⟩ (.string us[q].new.text)).setCell ⟨g7, 6, none⟩ (.bool us[q].new.runs)) = X3 at *
        have hY3 : YieldAt Fence.wide (n - 1) Try.prog l #[.agg #[.string ts[p].path, .string ts[p].text, .bool ts[p].runs], .agg #[.string us[q].path, .bool us[q].old.there, .string us[q].old.text, .bool us[q].old.runs, .bool us[q].new.there, .string us[q].new.text, .bool us[q].new.runs]] X3 (fun e W' => (e = .returned (.bool true) ∧ J (pre ++ [(ts[p].path, some ts[p], some us[q])]) W') ∨ (e = .returned (.bool false) ∧ Jx (pre ++ [(ts[p].path, some ts[p], some us[q])]) W')) := hY pre (ts[p].path, some ts[p], some us[q]) _ (hJ pre wr _ hJs hX) ⟨_, hm⟩
        obtain ⟨fn, tmps, assign, body, hy, hR⟩ := hY3
        have HM : Keep (mrgEC ts us = pre ++ [(ts[p].path, some ts[p], some us[q])] ++ mrg En.path Ch.path f (ts.drop (p + 1)) (us.drop (q + 1))) := ⟨hm⟩
        clear hY hJ hM hm hJs hX
        gi_wp2
        refine ⟨fun h => Bool.noConfusion h, hR.mono ?_⟩
        rintro e W3 (⟨rfl, hJ3⟩ | ⟨rfl, hJx3⟩)
        · gi_wp2
          go_roundw
          case rel => exact ⟨p + 1, q + 1, f, pre ++ [(ts[p].path, some ts[p], some us[q])], by congr 1, by congr 1, by omega, by omega, by omega, HM.out, hJ3⟩
          case measure => simp only [intOf]; omega
        · gi_wp2
          refine bodyPost_ret (results_none rfl _ _ _) rfl ?_
          exact ⟨⟨_, rfl⟩, .inr ⟨pre ++ [(ts[p].path, some ts[p], some us[q])], ⟨_, HM.out.symm⟩, hJx3⟩⟩
      · obtain ⟨y, ur, hd, hmr⟩ := frontG_gt (f := f) (by rw [ho]; exact hgt) hnn
        obtain ⟨hql, rfl, rfl⟩ := drop_cons hd
        rw [hmr] at hm
        rw [List.append_cons] at hm
        obtain ⟨b2, o2, rfl, hc2⟩ := e2.at hql
        have hql' : (q : Int) < us.length := by omega
        have ho1 : ¬ o ≤ 0 := by omega
        have ho2 : 0 ≤ o := by omega
        clear hc2 hd hmr hnn ho hend hgt
        by_cases hpl : p < ts.length
        · have hpl' : (p : Int) < ts.length := by omega
          gi_wp2
          rw [← hA]
          refine wpIn_wide.2 ?_
          (haveI := later_any; refine wp_region_later (by kernel_rfl) (by kernel_rfl) ?_; (repeat (go_big_quiet_step (first | (go_at_call 62; exact HF.out _)))); refine wpQuiet_nil ?_; intro _ hwq; obtain ⟨xq, hwq2⟩ := hwq; subst hwq2)
          have hX := hal.trans (xq.kept.mono hal.size)
          obtain ⟨⟨b60, b61, b62⟩, ⟨b70, b71, b72, b73, b74, b75, b76⟩, f6, f7⟩ := two_boxesEC hA xq.kept
          have HE1 : Keep (ES wr a ts) := ⟨e1⟩
          have HE2 : Keep (CS wr (some ⟨b2, o2, none⟩) us) := ⟨e2⟩
          have HM1 : Keep (wr.cell? ⟨Ba, 0, none⟩ = some (.slice a ts.length ca)) := ⟨m1⟩
          have HM2 : Keep (wr.cell? ⟨Bb, 0, none⟩ = some (.slice (some ⟨b2, o2, none⟩) us.length cb)) := ⟨m2⟩
          clear hs1 hs2 hes1 hes2 HF cm1 cm2 e1 e2 m1 m2 hA hal
          generalize xq.world = X at *
          clear xq
          obtain ⟨g6, hg6⟩ : ∃ g, g = wr.heap.size := ⟨_, rfl⟩
          obtain ⟨g7, hg7⟩ : ∃ g, g = wr.heap.size + 1 := ⟨_, rfl⟩
          rw [← hg7] at b70 b71 b72 b73 b74 b75 b76 f7 ⊢
          rw [← hg6] at b60 b61 b62 f6 ⊢
          have hn67 : ¬ g6 = g7 := by omega
          have HG : Keep (wr.heap.size ≤ g6 ∧ wr.heap.size ≤ g7) := ⟨by omega⟩
          clear hg6 hg7
          have q2 := cell_later hX HM2.out
          obtain ⟨y0, y1, y2, y3, y4, y5, y6⟩ := (HE2.out.below hX).cells hql
          gi_upto_region 11 with fail
          replace hX := box7_below (.string us[q].path) (.bool us[q].old.there) (.string us[q].old.text) (.bool us[q].old.runs) (.bool us[q].new.there) (.string us[q].new.text) (.bool us[q].new.runs) hX HG.out.2
          obtain ⟨v0, v1, v2, v3, v4, v5, v6⟩ := box7_set (.string us[q].path) (.bool us[q].old.there) (.string us[q].old.text) (.bool us[q].old.runs) (.bool us[q].new.there) (.string us[q].new.text) (.bool us[q].new.runs) b70 b71 b72 b73 b74 b75 b76
          have hn76 : ¬ g7 = g6 := fun e => hn67 e.symm
          replace b60 := (box7_other (.string us[q].path) (.bool us[q].old.there) (.string us[q].old.text) (.bool us[q].old.runs) (.bool us[q].new.there) (.string us[q].new.text) (.bool us[q].new.runs) hn76).trans b60
          replace b61 := (box7_other (.string us[q].path) (.bool us[q].old.there) (.string us[q].old.text) (.bool us[q].old.runs) (.bool us[q].new.there) (.string us[q].new.text) (.bool us[q].new.runs) hn76).trans b61
          replace b62 := (box7_other (.string us[q].path) (.bool us[q].old.there) (.string us[q].old.text) (.bool us[q].old.runs) (.bool us[q].new.there) (.string us[q].new.text) (.bool us[q].new.runs) hn76).trans b62
          clear b70 b71 b72 b73 b74 b75 b76 y0 y1 y2 y3 y4 y5 y6 q2 f7
          generalize (((((((X.setCell ⟨g7, 0, none⟩ (.string us[q].path)).setCell ⟨g7, 1, none⟩ (.bool us[q].old.there)).setCell ⟨g7, 2, none⟩ (.string us[q].old.text)).setCell ⟨g7, 3, none⟩ (.bool us[q].old.runs)).setCell ⟨g7, 4, none⟩ (.bool us[q].new.there)).setCell ⟨g7, 5, none⟩ (.string us[q].new.text)).setCell ⟨g7, 6, none⟩ (.bool us[q].new.runs)) = X3 at *
          have hY3 : YieldAt Fence.wide (n - 1) Try.prog l #[.agg #[.string ⟨#[]⟩, .string ⟨#[]⟩, .bool false], .agg #[.string us[q].path, .bool us[q].old.there, .string us[q].old.text, .bool us[q].old.runs, .bool us[q].new.there, .string us[q].new.text, .bool us[q].new.runs]] X3 (fun e W' => (e = .returned (.bool true) ∧ J (pre ++ [(us[q].path, none, some us[q])]) W') ∨ (e = .returned (.bool false) ∧ Jx (pre ++ [(us[q].path, none, some us[q])]) W')) := hY pre (us[q].path, none, some us[q]) _ (hJ pre wr _ hJs hX) ⟨_, hm⟩
          obtain ⟨fn, tmps, assign, body, hy, hR⟩ := hY3
          have HM : Keep (mrgEC ts us = pre ++ [(us[q].path, none, some us[q])] ++ mrg En.path Ch.path f (ts.drop (p)) (us.drop (q + 1))) := ⟨hm⟩
          clear hY hJ hM hm hJs hX
          gi_wp2
          refine ⟨fun h => Bool.noConfusion h, hR.mono ?_⟩
          rintro e W3 (⟨rfl, hJ3⟩ | ⟨rfl, hJx3⟩)
          · gi_wp2
            go_roundw
            case rel => exact ⟨p, q + 1, f, pre ++ [(us[q].path, none, some us[q])], by congr 1, by congr 1, by omega, by omega, by omega, HM.out, hJ3⟩
            case measure => simp only [intOf]; omega
          · gi_wp2
            refine bodyPost_ret (results_none rfl _ _ _) rfl ?_
            exact ⟨⟨_, rfl⟩, .inr ⟨pre ++ [(us[q].path, none, some us[q])], ⟨_, HM.out.symm⟩, hJx3⟩⟩
        · have hpl' : ¬ (p : Int) < ts.length := by omega
          gi_wp2
          rw [← hA]
          refine wpIn_wide.2 ?_
          (haveI := later_any; refine wp_region_later (by kernel_rfl) (by kernel_rfl) ?_; (repeat (go_big_quiet_step (first | (go_at_call 62; exact HF.out _)))); refine wpQuiet_nil ?_; intro _ hwq; obtain ⟨xq, hwq2⟩ := hwq; subst hwq2)
          have hX := hal.trans (xq.kept.mono hal.size)
          obtain ⟨⟨b60, b61, b62⟩, ⟨b70, b71, b72, b73, b74, b75, b76⟩, f6, f7⟩ := two_boxesEC hA xq.kept
          have HE1 : Keep (ES wr a ts) := ⟨e1⟩
          have HE2 : Keep (CS wr (some ⟨b2, o2, none⟩) us) := ⟨e2⟩
          have HM1 : Keep (wr.cell? ⟨Ba, 0, none⟩ = some (.slice a ts.length ca)) := ⟨m1⟩
          have HM2 : Keep (wr.cell? ⟨Bb, 0, none⟩ = some (.slice (some ⟨b2, o2, none⟩) us.length cb)) := ⟨m2⟩
          clear hs1 hs2 hes1 hes2 HF cm1 cm2 e1 e2 m1 m2 hA hal
          generalize xq.world = X at *
          clear xq
          obtain ⟨g6, hg6⟩ : ∃ g, g = wr.heap.size := ⟨_, rfl⟩
          obtain ⟨g7, hg7⟩ : ∃ g, g = wr.heap.size + 1 := ⟨_, rfl⟩
          rw [← hg7] at b70 b71 b72 b73 b74 b75 b76 f7 ⊢
          rw [← hg6] at b60 b61 b62 f6 ⊢
          have hn67 : ¬ g6 = g7 := by omega
          have HG : Keep (wr.heap.size ≤ g6 ∧ wr.heap.size ≤ g7) := ⟨by omega⟩
          clear hg6 hg7
          have q2 := cell_later hX HM2.out
          obtain ⟨y0, y1, y2, y3, y4, y5, y6⟩ := (HE2.out.below hX).cells hql
          gi_upto_region 11 with fail
          replace hX := box7_below (.string us[q].path) (.bool us[q].old.there) (.string us[q].old.text) (.bool us[q].old.runs) (.bool us[q].new.there) (.string us[q].new.text) (.bool us[q].new.runs) hX HG.out.2
          obtain ⟨v0, v1, v2, v3, v4, v5, v6⟩ := box7_set (.string us[q].path) (.bool us[q].old.there) (.string us[q].old.text) (.bool us[q].old.runs) (.bool us[q].new.there) (.string us[q].new.text) (.bool us[q].new.runs) b70 b71 b72 b73 b74 b75 b76
          have hn76 : ¬ g7 = g6 := fun e => hn67 e.symm
          replace b60 := (box7_other (.string us[q].path) (.bool us[q].old.there) (.string us[q].old.text) (.bool us[q].old.runs) (.bool us[q].new.there) (.string us[q].new.text) (.bool us[q].new.runs) hn76).trans b60
          replace b61 := (box7_other (.string us[q].path) (.bool us[q].old.there) (.string us[q].old.text) (.bool us[q].old.runs) (.bool us[q].new.there) (.string us[q].new.text) (.bool us[q].new.runs) hn76).trans b61
          replace b62 := (box7_other (.string us[q].path) (.bool us[q].old.there) (.string us[q].old.text) (.bool us[q].old.runs) (.bool us[q].new.there) (.string us[q].new.text) (.bool us[q].new.runs) hn76).trans b62
          clear b70 b71 b72 b73 b74 b75 b76 y0 y1 y2 y3 y4 y5 y6 q2 f7
          generalize (((((((X.setCell ⟨g7, 0, none⟩ (.string us[q].path)).setCell ⟨g7, 1, none⟩ (.bool us[q].old.there)).setCell ⟨g7, 2, none⟩ (.string us[q].old.text)).setCell ⟨g7, 3, none⟩ (.bool us[q].old.runs)).setCell ⟨g7, 4, none⟩ (.bool us[q].new.there)).setCell ⟨g7, 5, none⟩ (.string us[q].new.text)).setCell ⟨g7, 6, none⟩ (.bool us[q].new.runs)) = X3 at *
          have hY3 : YieldAt Fence.wide (n - 1) Try.prog l #[.agg #[.string ⟨#[]⟩, .string ⟨#[]⟩, .bool false], .agg #[.string us[q].path, .bool us[q].old.there, .string us[q].old.text, .bool us[q].old.runs, .bool us[q].new.there, .string us[q].new.text, .bool us[q].new.runs]] X3 (fun e W' => (e = .returned (.bool true) ∧ J (pre ++ [(us[q].path, none, some us[q])]) W') ∨ (e = .returned (.bool false) ∧ Jx (pre ++ [(us[q].path, none, some us[q])]) W')) := hY pre (us[q].path, none, some us[q]) _ (hJ pre wr _ hJs hX) ⟨_, hm⟩
          obtain ⟨fn, tmps, assign, body, hy, hR⟩ := hY3
          have HM : Keep (mrgEC ts us = pre ++ [(us[q].path, none, some us[q])] ++ mrg En.path Ch.path f (ts.drop (p)) (us.drop (q + 1))) := ⟨hm⟩
          clear hY hJ hM hm hJs hX
          gi_wp2
          refine ⟨fun h => Bool.noConfusion h, hR.mono ?_⟩
          rintro e W3 (⟨rfl, hJ3⟩ | ⟨rfl, hJx3⟩)
          · gi_wp2
            go_roundw
            case rel => exact ⟨p, q + 1, f, pre ++ [(us[q].path, none, some us[q])], by congr 1, by congr 1, by omega, by omega, by omega, HM.out, hJ3⟩
            case measure => simp only [intOf]; omega
          · gi_wp2
            refine bodyPost_ret (results_none rfl _ _ _) rfl ?_
            exact ⟨⟨_, rfl⟩, .inr ⟨pre ++ [(us[q].path, none, some us[q])], ⟨_, HM.out.symm⟩, hJx3⟩⟩

set_option maxHeartbeats 400000 in
theorem sideEC_any (a b : Option Addr) (n m ca cb : Nat) (w : World) :
    Calls Try.prog 38 #[.slice a n ca, .slice b m cb] w fun e w' => e = .returned (.func (.func 61) #[] #[.pointer (some ⟨w.heap.size, 0, none⟩), .pointer (some ⟨w.heap.size + 1, 0, none⟩)]) ∧ w' = (w.alloc (.cells #[.slice a n ca] 23)).alloc (.cells #[.slice b m cb] 28) := by
  go_enter Try.func38, Try.ntmps38
  go_wp2
  go_ret
  exact ⟨by simp, rfl⟩
end Go.Proofs.Ytjlflmbifeocbaa

namespace Go.Proofs.Ytjlflmbifeocbaa
open Go.RowKit

theorem count_set : ∀ (l : List Bool) (i : Nat), l[i]? = some false → (l.set i true).count false + 1 = l.count false
  | [], i, h => by simp at h
  | b :: l, 0, h => by
    simp at h
    subst h
    simp
  | b :: l, i + 1, h => by
    have ih := count_set l i (by simpa using h)
    simp only [List.set_cons_succ, List.count_cons]
    omega

theorem getD_false {L : Array Bool} {i : Nat} (h : L.getD i true = false) : L.toList[i]? = some false := by
  rw [Array.getElem?_toList]
  cases hx : L[i]? with
  | none => rw [Array.getD_eq_getD_getElem?, hx] at h; simp at h
  | some b => rw [Array.getD_eq_getD_getElem?, hx] at h; simp at h; rw [h]

theorem wpAnyIn_inv {F : Fence} {n : Nat} {P : Program} {md : Region.Mode} {ops : Array Oper} {Q : Exit → Act → World → Prop} (Inv : Array Bool → Act → World → Prop)
    (hd : ∀ L a w, Inv L a w → Region.ready md ops L = [] → Q .normal a w)
    (hs : ∀ L a w i, Inv L a w → i ∈ Region.ready md ops L → wpOpIn F n P ops Q i (Inv (L.setIfInBounds i true)) a w) :
    ∀ (fuel : Nat) (L : Array Bool) (a : Act) (w : World), L.toList.count false ≤ fuel → Inv L a w → wpAnyIn F n P md ops Q fuel L a w
  | 0, L, a, w, hc, hi => by
    have hr : Region.ready md ops L = [] := by
      cases hr : Region.ready md ops L with
      | nil => rfl
      | cons i r =>
        exfalso
        have hm : i ∈ Region.ready md ops L := by rw [hr]; simp
        have h1 := getD_false (mem_ready.1 hm).1
        have h2 := count_set _ _ h1
        omega
    exact ⟨hr, hd L a w hi hr⟩
  | fuel + 1, L, a, w, hc, hi => ⟨hd L a w hi, fun i hi' => wpOpIn_mono (fun a' w' h => wpAnyIn_inv Inv hd hs fuel _ a' w' (by
      have h1 := count_set _ _ (getD_false (mem_ready.1 hi').1)
      rw [Array.toList_setIfInBounds]
      omega) h) (hs L a w i hi hi')⟩

theorem getD_repl (n j : Nat) : (Array.replicate n false).getD j false = false := by
  rw [Array.getD_eq_getD_getElem?, Array.getElem?_replicate]
  split <;> rfl
theorem getD_ft {L : Array Bool} {i : Nat} (h : L.getD i true = false) : L.getD i false = false := by
  rw [Array.getD_eq_getD_getElem?] at h ⊢
  cases hx : L[i]? with
  | none => rw [hx] at h; simp at h
  | some b => rw [hx] at h; simpa using h
theorem getD_tt {L : Array Bool} {i : Nat} (hi : i < L.size) (h : L.getD i true = true) : L.getD i false = true := by
  rw [Array.getD_eq_getD_getElem?, Array.getElem?_eq_getElem hi] at h ⊢
  simpa using h

/-- What a done operation waited for is done. -/
def ClosedB (ops : Array Oper) (L : Array Bool) : Prop := ∀ i o, ops[i]? = some o → L.getD i false = true → ∀ e ∈ o.after, Region.binds .any e = true → L.getD e.on false = true
def lexAll (ops : Array Oper) : Bool := (List.range ops.size).all fun i => match ops[i]? with
  | some o => o.after.all fun e => decide (e.on < i)
  | none => true

theorem wpIn_region_inv {F : Fence} {n : Nat} {P : Program} {id : Nat} {ops : Array Oper} {Q : Exit → Act → World → Prop} {a : Act} {w : World} (hm : P.follows .mixedOrders = true) (hlex : lexAll ops = true) (Inv : Array Bool → Act → World → Prop)
    (h0 : Inv (Array.replicate ops.size false) a w.drew)
    (hd : ∀ L a w, Inv L a w → (∀ i, i < ops.size → L.getD i false = true) → Q .normal a w)
    (hs : ∀ L a w i o, Inv L a w → ClosedB ops L → L.getD i true = false → ops[i]? = some o → (∀ e ∈ o.after, Region.binds .any e = true → L.getD e.on false = true) → wpOpIn F n P ops Q i (Inv (L.setIfInBounds i true)) a w) :
    (Code.region id ops true).wpIn F n P Q a w := by
  have hc0 : ClosedB ops (Array.replicate ops.size false) := fun i o _ h => by rw [getD_repl] at h; cases h
  refine wpIn_region_any hm (wpAnyIn_inv (fun L a w => Inv L a w ∧ ClosedB ops L ∧ L.size = ops.size) ?_ ?_ ops.size _ a _ (by simp) ⟨h0, hc0, by simp⟩)
  · rintro L a w ⟨hi, hc, hz⟩ hr
    refine hd L a w hi ?_
    have key : ∀ n i, i < n → i < ops.size → L.getD i false = true := by
      intro n
      induction n with
      | zero => intro i h; omega
      | succ n ih =>
        intro i h hlt
        refine getD_tt (by omega) ?_
        cases hb : L.getD i true with
        | true => rfl
        | false =>
          exfalso
          have : i ∈ Region.ready .any ops L := mem_ready.2 ⟨hb, ops[i], Array.getElem?_eq_getElem hlt, fun e he _ => by
            have hle : e.on < i := by
              have h1 := List.all_eq_true.1 hlex i (by simpa using hlt)
              rw [Array.getElem?_eq_getElem hlt] at h1
              simp only [Array.all_eq_true_iff_forall_mem, decide_eq_true_eq] at h1
              exact h1 e he
            exact ih e.on (by omega) (by omega)⟩
          rw [hr] at this
          cases this
    exact fun i hi => key (i + 1) i (by omega) hi
  · rintro L a w i ⟨hi, hc, hz⟩ hr
    obtain ⟨h1, o, h2, h3⟩ := mem_ready.1 hr
    refine wpOpIn_mono (fun a' w' h => ⟨h, fun j o' ho' hj e he hb => ?_, by simpa using hz⟩) (hs L a w i o hi hc h1 h2 h3)
    by_cases e' : j = i
    · subst e'
      rw [h2] at ho'
      cases ho'
      exact getD_set_true (h3 e he hb)
    · rw [getD_set_ne false (fun x => e' x.symm)] at hj
      exact getD_set_true (hc j o' ho' hj e he hb)

/-- What lies in the slots: those ahead of the region, and those of the operations that are done. -/
structure Sl (N d0 : Nat) (base tab : Nat → Option Value) (L : Array Bool) (a : Act) : Prop where
  sz : a.tmps.size = N
  bs : ∀ k v, base k = some v → k < d0 ∧ a.eval (.tmp k) = v
  sl : ∀ j v, tab j = some v → L.getD j false = true → a.eval (.tmp (d0 + j)) = v
theorem Sl.put {N d0 : Nat} {base tab : Nat → Option Value} {L : Array Bool} {a : Act} (h : Sl N d0 base tab L a) {i : Nat} {v : Value} (hi : d0 + i < N) (ht : ∀ u, tab i = some u → u = v) : Sl N d0 base tab (L.setIfInBounds i true) (a.put (some (d0 + i)) v) := by
  refine ⟨by simp [Act.put, h.sz], fun k u hk => ?_, fun j u hj hL => ?_⟩
  · obtain ⟨h1, h2⟩ := h.bs k u hk
    refine ⟨h1, ?_⟩
    rw [Act.eval_put (fun d hd => by cases hd; intro e; injection e with e; have e2 : k = d0 + i := e; omega)]
    exact h2
  · by_cases e : j = i
    · subst e
      rw [ht u hj]
      show ((a.tmps.setIfInBounds (d0 + j) v).getD (d0 + j) undef) = v
      rw [Array.getD_eq_getD_getElem?, Array.getElem?_setIfInBounds_self_of_lt (by rw [h.sz]; exact hi)]
      rfl
    · rw [getD_set_ne false (fun e' => e e'.symm)] at hL
      rw [Act.eval_put (fun d hd => by cases hd; intro e'; injection e' with e'; have e2 : d0 + j = d0 + i := e'; omega)]
      exact h.sl j u hj hL
end Go.Proofs.Ytjlflmbifeocbaa

namespace Go.Proofs.Ytjlflmbifeocbaa
open Go.RowKit

/-- The slots ds.i hold what the done operations gave; all others are as they were. -/
structure Sl2 (T0 : Array Value) (ds : List Nat) (tab : Nat → Option Value) (L : Array Bool) (a : Act) : Prop where
  sz : a.tmps.size = T0.size
  df : a.defers = []
  fr : ∀ k, k ∉ ds → a.tmps[k]? = T0[k]?
  sl : ∀ i (h : i < ds.length) v, tab i = some v → L.getD i false = true → a.eval (.tmp ds[i]) = v
theorem Sl2.put {T0 : Array Value} {ds : List Nat} {tab : Nat → Option Value} {L : Array Bool} {a : Act} (h : Sl2 T0 ds tab L a) (nd : ds.Nodup) {i : Nat} {v : Value} (hi : i < ds.length) (hd : ds[i] < T0.size) (ht : ∀ u, tab i = some u → u = v) : Sl2 T0 ds tab (L.setIfInBounds i true) (a.put (some ds[i]) v) := by
  refine ⟨by simp [Act.put, h.sz], h.df, fun k hk => ?_, fun j hj u hu hL => ?_⟩
  · have hne : ds[i] ≠ k := fun e => hk (e ▸ List.getElem_mem hi)
    show (a.tmps.setIfInBounds ds[i] v)[k]? = _
    rw [Array.getElem?_setIfInBounds_ne hne]
    exact h.fr k hk
  · by_cases e : j = i
    · subst e
      rw [ht u hu]
      show ((a.tmps.setIfInBounds ds[j] v).getD ds[j] undef) = v
      rw [Array.getD_eq_getD_getElem?, Array.getElem?_setIfInBounds_self_of_lt (by rw [h.sz]; exact hd)]
      rfl
    · rw [getD_set_ne false (fun e' => e e'.symm)] at hL
      rw [Act.eval_put (fun d hd' => by
        cases hd'
        intro e'
        injection e' with e'
        have e2 : ds[j] = ds[i] := e'
        rcases Nat.lt_trichotomy j i with h1 | h1 | h1
        · exact List.pairwise_iff_getElem.1 nd j i hj hi h1 e2
        · exact e h1
        · exact List.pairwise_iff_getElem.1 nd i j hi hj h1 e2.symm)]
      exact h.sl j hj u hu hL
theorem Sl2.skip {T0 : Array Value} {ds : List Nat} {tab : Nat → Option Value} {L : Array Bool} {a : Act} (h : Sl2 T0 ds tab L a) {i : Nat} (ht : tab i = none) : Sl2 T0 ds tab (L.setIfInBounds i true) a :=
  ⟨h.sz, h.df, h.fr, fun j hj u hu hL => by
    by_cases e : j = i
    · subst e; rw [ht] at hu; cases hu
    · rw [getD_set_ne false (fun e' => e e'.symm)] at hL
      exact h.sl j hj u hu hL⟩
theorem Sl2.start {T0 : Array Value} {ds : List Nat} {tab : Nat → Option Value} (n : Nat) : Sl2 T0 ds tab (Array.replicate n false) { tmps := T0, defers := [] } :=
  ⟨rfl, rfl, fun _ _ => rfl, fun i _ v _ hL => by rw [getD_repl] at hL; cases hL⟩
theorem Sl2.old {T0 : Array Value} {ds : List Nat} {tab : Nat → Option Value} {L : Array Bool} {a : Act} (h : Sl2 T0 ds tab L a) {k : Nat} (hk : ds.contains k = false) : a.tmps[k]?.getD undef = T0[k]?.getD undef := by
  rw [h.fr k (fun hm => by rw [List.contains_iff_mem.2 hm] at hk; cases hk)]
theorem Sl2.new {T0 : Array Value} {ds : List Nat} {tab : Nat → Option Value} {L : Array Bool} {a : Act} (h : Sl2 T0 ds tab L a) {i : Nat} {v : Value} (hi : i < ds.length) (ht : tab i = some v) (hL : L.getD i false = true) : a.tmps[ds[i]]?.getD undef = v := by
  rw [← Array.getD_eq_getD_getElem?]
  exact h.sl i hi v ht hL

/-- The frame behind the region, written out. -/
def updL (ds : List Nat) (u : Nat → Value) : Nat → List Value → List Value
  | _, [] => []
  | k, e :: l => (bif ds.contains k then u k else e) :: updL ds u (k + 1) l
theorem updL_len (ds : List Nat) (u : Nat → Value) : ∀ (l : List Value) (k : Nat), (updL ds u k l).length = l.length
  | [], _ => rfl
  | _ :: l, k => by simp [updL, updL_len ds u l (k + 1)]
theorem updL_at (ds : List Nat) (u : Nat → Value) : ∀ (l : List Value) (k i : Nat), (updL ds u k l)[i]? = (l[i]?).map fun e => bif ds.contains (k + i) then u (k + i) else e
  | [], _, i => by simp [updL]
  | e :: l, k, 0 => by simp [updL]
  | e :: l, k, i + 1 => by
    simp only [updL, List.getElem?_cons_succ]
    rw [updL_at ds u l (k + 1) i]
    rw [show k + 1 + i = k + (i + 1) by omega]
theorem Sl2.act {l : List Value} {ds : List Nat} {tab : Nat → Option Value} {L : Array Bool} {a : Act} (h : Sl2 l.toArray ds tab L a) : a = { tmps := (updL ds (fun k => a.tmps.getD k undef) 0 l).toArray, defers := [] } := by
  obtain ⟨t, d⟩ := a
  have hd : d = [] := h.df
  subst hd
  congr 1
  refine Array.ext' ?_
  refine List.ext_getElem? fun i => ?_
  rw [updL_at, Nat.zero_add]
  have hsz : t.size = l.length := by simpa using h.sz
  by_cases hi : i < l.length
  · rw [List.getElem?_eq_getElem hi]
    have hit : i < t.size := by omega
    cases hc : ds.contains i with
    | true =>
      simp only [Option.map_some, cond_true]
      rw [Array.getElem?_toList, Array.getElem?_eq_getElem hit]
      congr 1
      rw [Array.getD_eq_getD_getElem?, Array.getElem?_eq_getElem hit]
      rfl
    | false =>
      simp only [Option.map_some, cond_false]
      have h1 := h.fr i (fun hm => by rw [List.contains_iff_mem.2 hm] at hc; cases hc)
      have h2 : t[i]? = l.toArray[i]? := h1
      rw [Array.getElem?_toList, h2]
      simp [hi]
  · have h1 : t.toList[i]? = none := by rw [Array.getElem?_toList]; exact Array.getElem?_eq_none (by omega)
    rw [h1, List.getElem?_eq_none (by omega)]
    rfl
theorem evalD2 {a : Act} {k : Nat} {v : Value} (h : a.eval (.tmp k) = v) : a.tmps[k]?.getD undef = v := by
  rw [← Array.getD_eq_getD_getElem?]; exact h
/-- As lexAll, of the edges that bind. -/
def lexB2 (ops : Array Oper) : Bool := (List.range ops.size).all fun i => match ops[i]? with
  | some o => o.after.all fun e => !Region.binds .any e || decide (e.on < i)
  | none => true
theorem wpIn_region_inv0 {F : Fence} {n : Nat} {P : Program} {id : Nat} {ops : Array Oper} {Q : Exit → Act → World → Prop} {T0 : Array Value} {w : World} (hm : P.follows .mixedOrders = true) (hlex : lexB2 ops = true) (Inv : Array Value → Array Bool → Act → World → Prop)
    (h0 : Inv T0 (Array.replicate ops.size false) { tmps := T0, defers := [] } w.drew)
    (hd : ∀ L a w, Inv T0 L a w → (∀ i, i < ops.size → L.getD i false = true) → Q .normal a w)
    (hs : ∀ L a w i o, Inv T0 L a w → ClosedB ops L → L.getD i true = false → ops[i]? = some o → (∀ e ∈ o.after, Region.binds .any e = true → L.getD e.on false = true) → wpOpIn F n P ops Q i (Inv T0 (L.setIfInBounds i true)) a w) :
    (Code.region id ops true).wpIn F n P Q { tmps := T0, defers := [] } w := by
  have hc0 : ClosedB ops (Array.replicate ops.size false) := fun i o _ h => by rw [getD_repl] at h; cases h
  refine wpIn_region_any hm (wpAnyIn_inv (fun L a w => Inv T0 L a w ∧ ClosedB ops L ∧ L.size = ops.size) ?_ ?_ ops.size _ _ _ (by simp) ⟨h0, hc0, by simp⟩)
  · rintro L a w ⟨hi, hc, hz⟩ hr
    refine hd L a w hi ?_
    have key : ∀ n i, i < n → i < ops.size → L.getD i false = true := by
      intro n
      induction n with
      | zero => intro i h; omega
      | succ n ih =>
        intro i h hlt
        refine getD_tt (by omega) ?_
        cases hb : L.getD i true with
        | true => rfl
        | false =>
          exfalso
          have : i ∈ Region.ready .any ops L := mem_ready.2 ⟨hb, ops[i], Array.getElem?_eq_getElem hlt, fun e he hbd => by
            have hle : e.on < i := by
              have h1 := List.all_eq_true.1 hlex i (by simpa using hlt)
              rw [Array.getElem?_eq_getElem hlt] at h1
              simp only [Array.all_eq_true_iff_forall_mem, Bool.or_eq_true, Bool.not_eq_true', decide_eq_true_eq] at h1
              rcases h1 e he with h2 | h2
              · rw [hbd] at h2; cases h2
              · exact h2
            exact ih e.on (by omega) (by omega)⟩
          rw [hr] at this
          cases this
    exact fun i hi => key (i + 1) i (by omega) hi
  · rintro L a w i ⟨hi, hc, hz⟩ hr
    obtain ⟨h1, o, h2, h3⟩ := mem_ready.1 hr
    refine wpOpIn_mono (fun a' w' h => ⟨h, fun j o' ho' hj e he hb => ?_, by simpa using hz⟩) (hs L a w i o hi hc h1 h2 h3)
    by_cases e' : j = i
    · subst e'
      rw [h2] at ho'
      cases ho'
      exact getD_set_true (h3 e he hb)
    · rw [getD_set_ne false (fun x => e' x.symm)] at hj
      exact getD_set_true (hc j o' ho' hj e he hb)
end Go.Proofs.Ytjlflmbifeocbaa

namespace Go.Proofs.Ytjlflmbifeocbaa
open Go.RowKit

def isZ (e : En) : Bool := (e.path.toList == ([] : List UInt8)) && (e.text.toList == ([] : List UInt8)) && !e.runs
def fileE (e : En) : Fl := ⟨!isZ e, e.text, e.runs⟩

set_option maxRecDepth 100000 in
set_option maxHeartbeats 4000000 in
theorem fileE_any (e : En) (w : World) : Calls Try.prog 33 #[.agg #[.string e.path, .string e.text, .bool e.runs]] w fun r w' => r = .returned (.agg #[.bool (fileE e).there, .string (fileE e).text, .bool (fileE e).runs]) ∧ Below w.heap.size w w' := by
  obtain ⟨p, t, r⟩ := e
  have hbw : Below w.heap.size w ((w.alloc (.cells #[.string p, .string t, .bool r] 57)).alloc (.cells #[.bool false, .string ⟨#[]⟩, .bool false] 54)) := ((Below.refl _ _).alloc (Nat.le_refl _) _).alloc (by simp) _
  have c0 : ((w.alloc (.cells #[.string p, .string t, .bool r] 57)).alloc (.cells #[.bool false, .string ⟨#[]⟩, .bool false] 54)).cell? ⟨w.heap.size, 0, none⟩ = some (.string p) := by simp [go_sem]
  have c1 : ((w.alloc (.cells #[.string p, .string t, .bool r] 57)).alloc (.cells #[.bool false, .string ⟨#[]⟩, .bool false] 54)).cell? ⟨w.heap.size, 1, none⟩ = some (.string t) := by simp [go_sem]
  have c2 : ((w.alloc (.cells #[.string p, .string t, .bool r] 57)).alloc (.cells #[.bool false, .string ⟨#[]⟩, .bool false] 54)).cell? ⟨w.heap.size, 2, none⟩ = some (.bool r) := by simp [go_sem]
  have r0 : ((w.alloc (.cells #[.string p, .string t, .bool r] 57)).alloc (.cells #[.bool false, .string ⟨#[]⟩, .bool false] 54)).cell? ⟨w.heap.size + 1, 0, none⟩ = some (.bool false) := by simp [go_sem]
  have r1 : ((w.alloc (.cells #[.string p, .string t, .bool r] 57)).alloc (.cells #[.bool false, .string ⟨#[]⟩, .bool false] 54)).cell? ⟨w.heap.size + 1, 1, none⟩ = some (.string ⟨#[]⟩) := by simp [go_sem]
  have r2 : ((w.alloc (.cells #[.string p, .string t, .bool r] 57)).alloc (.cells #[.bool false, .string ⟨#[]⟩, .bool false] 54)).cell? ⟨w.heap.size + 1, 2, none⟩ = some (.bool false) := by simp [go_sem]
  have rf : ∀ j, ((w.alloc (.cells #[.string p, .string t, .bool r] 57)).alloc (.cells #[.bool false, .string ⟨#[]⟩, .bool false] 54)).frozen? ⟨w.heap.size + 1, j, none⟩ = false := fun j => by simp [go_sem]
  go_enter Try.func33, Try.ntmps33
  go_upto_region 1 with fail
  generalize (w.alloc (.cells #[.string p, .string t, .bool r] 57)).alloc (.cells #[.bool false, .string ⟨#[]⟩, .bool false] 54) = W at *
  have HL : Keep (w.heap.size ≤ w.heap.size + 1) := ⟨by omega⟩
  obtain ⟨rb, hrb⟩ : ∃ rb, rb = w.heap.size + 1 := ⟨_, rfl⟩
  obtain ⟨tb, htb⟩ : ∃ tb, tb = w.heap.size := ⟨_, rfl⟩
  rw [← hrb] at r0 r1 r2 rf ⊢
  rw [← htb] at c0 c1 c2 ⊢
  have HO : Keep (w.heap.size ≤ rb) := ⟨by omega⟩
  have nt : ¬ tb = rb := by omega
  have nt2 : ¬ rb = tb := by omega
  clear hrb htb HL
  have hemp : ∀ z : ByteArray, z.toList = [] → z = ⟨#[]⟩ := fun z h => WideShapes.bytes_inj (by rw [← Lib.toList_data, h])
  cases hz : isZ ⟨p, t, r⟩ with
  | true =>
    obtain ⟨⟨h1, h2⟩, h3⟩ : (p.toList = [] ∧ t.toList = []) ∧ r = false := by simpa [isZ] using hz
    obtain rfl := hemp p h1
    obtain rfl := hemp t h2
    subst h3
    have HZ : Keep (fileE ⟨⟨#[]⟩, ⟨#[]⟩, false⟩ = ⟨false, ⟨#[]⟩, false⟩) := ⟨by unfold fileE; rw [hz]; rfl⟩
    clear h1 h2 hz hemp
    go_region
    all_goals (try go_wp2)
    all_goals
      refine bodyPost_ret (v := .agg #[.bool false, .string ⟨#[]⟩, .bool false]) ?_ rfl ⟨by rw [HZ.out], ?_⟩
      · go_light
        simp [results, Try.results33, go_sem, r0, r1, r2]
      · repeat (first | ((with_reducible refine Below.setCell ?_ ?hq2 _); (case hq2 => exact HO.out)) | (with_reducible refine Below.drew ?_))
        exact hbw

  | false =>
    have HZ : Keep (fileE ⟨p, t, r⟩ = ⟨true, t, r⟩) := ⟨by unfold fileE; rw [hz]; rfl⟩
    by_cases h1 : p.toList = []
    · obtain rfl := hemp p h1
      by_cases h2 : t.toList = []
      · obtain rfl := hemp t h2
        cases r with
        | false =>
          exfalso
          rw [Bool.eq_false_iff] at hz
          exact hz (by simp [isZ, h1])
        | true =>
          clear hz h1 h2 hemp
          go_region
          all_goals (try go_wp2)
          all_goals
            refine bodyPost_ret (v := .agg #[.bool true, .string ⟨#[]⟩, .bool true]) ?_ rfl ⟨by rw [HZ.out], ?_⟩
            · go_light
              simp [results, Try.results33, go_sem, r0, r1, r2]
            · repeat (first | ((with_reducible refine Below.setCell ?_ ?hq2 _); (case hq2 => exact HO.out)) | (with_reducible refine Below.drew ?_))
              exact hbw

      · have ht : (t.toList == ([] : List UInt8)) = false := by simpa using h2
        clear hz h1 h2 hemp
        go_region
        all_goals (try go_wp2)
        all_goals
          refine bodyPost_ret (v := .agg #[.bool true, .string t, .bool r]) ?_ rfl ⟨by rw [HZ.out], ?_⟩
          · go_light
            simp [results, Try.results33, go_sem, r0, r1, r2]
          · repeat (first | ((with_reducible refine Below.setCell ?_ ?hq2 _); (case hq2 => exact HO.out)) | (with_reducible refine Below.drew ?_))
            exact hbw

    · have hp : (p.toList == ([] : List UInt8)) = false := by simpa using h1
      clear hz h1 hemp
      go_region
      all_goals (try go_wp2)
      all_goals
        refine bodyPost_ret (v := .agg #[.bool true, .string t, .bool r]) ?_ rfl ⟨by rw [HZ.out], ?_⟩
        · go_light
          simp [results, Try.results33, go_sem, r0, r1, r2]
        · repeat (first | ((with_reducible refine Below.setCell ?_ ?hq2 _); (case hq2 => exact HO.out)) | (with_reducible refine Below.drew ?_))
          exact hbw
end Go.Proofs.Ytjlflmbifeocbaa

namespace Go.Proofs.Ytjlflmbifeocbaa
open Go.RowKit

def noFl : Fl := ⟨false, ⟨#[]⟩, false⟩
def atL (ts : List En) (p : ByteArray) : Fl := match ts.find? (fun e => e.path.toList == p.toList) with
  | some e => ⟨true, e.text, e.runs⟩
  | none => noFl
theorem atL_hit {ts : List En} {p : ByteArray} {k : Nat} (hk : k < ts.length) (hno : ∀ x ∈ ts.take k, (x.path.toList == p.toList) = false) (h : (ts[k].path.toList == p.toList) = true) : atL ts p = ⟨true, ts[k].text, ts[k].runs⟩ := by
  have h1 : ts.find? (fun e => e.path.toList == p.toList) = some ts[k] := by
    rw [List.find?_eq_some_iff_append]
    refine ⟨h, ts.take k, ts.drop (k + 1), ?_, fun a ha => by rw [hno a ha]; rfl⟩
    conv => lhs; rw [← List.take_append_drop k ts]
    rw [List.drop_eq_getElem_cons hk]
  unfold atL
  rw [h1]
theorem atL_none {ts : List En} {p : ByteArray} (hno : ∀ x ∈ ts, (x.path.toList == p.toList) = false) : atL ts p = noFl := by
  have h1 : ts.find? (fun e => e.path.toList == p.toList) = none := by
    rw [List.find?_eq_none]
    intro x hx
    rw [hno x hx]; simp
  unfold atL
  rw [h1]

set_option maxRecDepth 100000 in
set_option maxHeartbeats 4000000 in
theorem l6At_any (a : Option Addr) (cap : Nat) (ts : List En) (p : ByteArray) (w : World) (hts : ES w a ts) (hn : ts.length ≤ 1048576) :
    Calls Try.prog 35 #[.agg #[.slice a ts.length cap], .string p] w fun e w' => e = .returned (flV (atL ts p)) ∧ Below w.heap.size w w' := by
  have hal : Below w.heap.size w ((w.alloc (.cells #[.slice a ts.length cap] 25)).alloc (.cells #[.bool false, .string ⟨#[]⟩, .bool false] 54)) := ((Below.refl _ _).alloc (Nat.le_refl _) _).alloc (by simp) _
  have t0 : ((w.alloc (.cells #[.slice a ts.length cap] 25)).alloc (.cells #[.bool false, .string ⟨#[]⟩, .bool false] 54)).cell? ⟨w.heap.size, 0, none⟩ = some (.slice a ts.length cap) := by simp [go_sem]
  have r0 : ((w.alloc (.cells #[.slice a ts.length cap] 25)).alloc (.cells #[.bool false, .string ⟨#[]⟩, .bool false] 54)).cell? ⟨w.heap.size + 1, 0, none⟩ = some (.bool false) := by simp [go_sem]
  have r1 : ((w.alloc (.cells #[.slice a ts.length cap] 25)).alloc (.cells #[.bool false, .string ⟨#[]⟩, .bool false] 54)).cell? ⟨w.heap.size + 1, 1, none⟩ = some (.string ⟨#[]⟩) := by simp [go_sem]
  have r2 : ((w.alloc (.cells #[.slice a ts.length cap] 25)).alloc (.cells #[.bool false, .string ⟨#[]⟩, .bool false] 54)).cell? ⟨w.heap.size + 1, 2, none⟩ = some (.bool false) := by simp [go_sem]
  have rf : ∀ j, ((w.alloc (.cells #[.slice a ts.length cap] 25)).alloc (.cells #[.bool false, .string ⟨#[]⟩, .bool false] 54)).frozen? ⟨w.heap.size + 1, j, none⟩ = false := fun j => by simp [go_sem]
  have hE := hts.below hal
  go_enter Try.func35, Try.ntmps35
  go_wp2_with fail
  generalize (w.alloc (.cells #[.slice a ts.length cap] 25)).alloc (.cells #[.bool false, .string ⟨#[]⟩, .bool false] 54) = W at *
  obtain ⟨rb, hrb⟩ : ∃ rb, rb = w.heap.size + 1 := ⟨_, rfl⟩
  obtain ⟨tb, htb⟩ : ∃ tb, tb = w.heap.size := ⟨_, rfl⟩
  rw [← hrb] at r0 r1 r2 rf ⊢
  rw [← htb] at t0 ⊢
  have HO : Keep (w.heap.size ≤ rb ∧ tb ≠ rb) := ⟨by omega⟩
  have nt : ¬ tb = rb := by omega
  have nt2 : ¬ rb = tb := by omega
  clear hrb htb hts
  go_loopw [5] (fun i wr => ∃ k : Nat, i = .int .i64 k ∧ k ≤ ts.length ∧ Keep (∀ x ∈ ts.take k, (x.path.toList == p.toList) = false) ∧ W = wr) (fun i _ => ts.length - (intOf i).toNat)
  case atStart => exact ⟨0, rfl, Nat.zero_le _, ⟨fun x hx => by simp at hx⟩, rfl⟩
  case round =>
    obtain ⟨k, rfl, hk, HNO, rfl⟩ := hrel
    by_cases hlt : k < ts.length
    · have hlt' : (k : Int) < ts.length := by omega
      obtain ⟨b, off, rfl, hc⟩ := hE.at hlt
      obtain ⟨x0, x1, x2⟩ := hc k hlt
      clear hc
      cases hq : (ts[k].path.toList == p.toList) with
      | true =>
        have HA : Keep (atL ts p = ⟨true, ts[k].text, ts[k].runs⟩) := ⟨atL_hit hlt HNO.out hq⟩
        have hbe : Below w.heap.size w W := hal
        go_upto_region 5 with fail
        go_region
        all_goals (try go_wp2)
        all_goals
          refine bodyPost_ret (v := flV ⟨true, ts[k].text, ts[k].runs⟩) ?_ rfl ⟨by rw [HA.out], ?_⟩
          · go_light
            simp [results, Try.results35, go_sem, flV, r0, r1, r2]
          · repeat (first | ((with_reducible refine Below.setCell ?_ ?hq2 _); (case hq2 => exact HO.out.1)) | (with_reducible refine Below.drew ?_))
            exact hbe
      | false =>
        have HN2 : Keep (∀ x ∈ ts.take (k + 1), (x.path.toList == p.toList) = false) := ⟨fun x hx => by
          rw [List.take_succ_eq_append_getElem hlt] at hx
          rcases List.mem_append.1 hx with h | h
          · exact HNO.out x h
          · rw [List.mem_singleton.1 h]; exact hq⟩
        go_wp2
        go_roundw
        case rel => exact ⟨k + 1, by congr 1, hlt, HN2, trivial⟩
        case measure => simp only [intOf]; omega
    · obtain rfl : k = ts.length := by omega
      have HA : Keep (atL ts p = noFl) := ⟨atL_none (by have := HNO.out; rw [List.take_length] at this; exact this)⟩
      go_wp2
      refine bodyPost_ret (v := flV noFl) ?_ rfl ⟨by rw [HA.out], ?_⟩
      · go_light
        simp [results, Try.results35, go_sem, flV, noFl, r0, r1, r2]
      · repeat (first | ((with_reducible refine Below.setCell ?_ ?hq2 _); (case hq2 => exact HO.out.1)) | (with_reducible refine Below.drew ?_))
        exact hal
end Go.Proofs.Ytjlflmbifeocbaa

namespace Go.Proofs.Ytjlflmbifeocbaa
open Go.RowKit

theorem path_ne0 {s : ByteArray} (h : pathOk pathB s = true) : (s.toList == ([] : List UInt8)) = false := by
  rw [Bool.eq_false_iff]
  intro e
  have e1 : s = ⟨#[]⟩ := WideShapes.bytes_inj (by rw [← Lib.toList_data, (by simpa using e : s.toList = [])])
  subst e1
  revert h
  decide
theorem valid_enF {ts : List En} (h : ValidTs ts) {e : En} (he : e ∈ ts) : enOk e = true := by
  obtain ⟨i, hi, rfl⟩ := List.getElem_of_mem he
  obtain ⟨_, h1, _⟩ := h.2 i hi
  exact h1
theorem valid_path {ts : List En} (h : ValidTs ts) {e : En} (he : e ∈ ts) : (e.path.toList == ([] : List UInt8)) = false := by
  have h1 := valid_enF h he
  simp only [enOk, Bool.and_eq_true] at h1
  exact path_ne0 h1.1
theorem fileE_zero : fileE zeroE = noFl := by
  unfold fileE zeroE noFl
  have : isZ ⟨⟨#[]⟩, ⟨#[]⟩, false⟩ = true := by simp [isZ]
  rw [this]
  rfl
theorem fileE_some {e : En} (h : (e.path.toList == ([] : List UInt8)) = false) : fileE e = ⟨true, e.text, e.runs⟩ := by
  unfold fileE isZ
  rw [h]
  rfl
theorem fileE_at {ts : List En} (h : ValidTs ts) (p : ByteArray) : fileE ((fnd En.path ts p).getD zeroE) = atL ts p := by
  unfold atL
  show _ = match fnd En.path ts p with | some e => (⟨true, e.text, e.runs⟩ : Fl) | none => noFl
  cases hf : fnd En.path ts p with
  | none => exact fileE_zero
  | some e => exact fileE_some (valid_path h (fnd_some hf).1)
end Go.Proofs.Ytjlflmbifeocbaa

namespace Go.Proofs.Ytjlflmbifeocbaa
open Go.RowKit

/-- The entries that lie under other paths. -/
def offP (ts : List En) (p : ByteArray) : List En := ts.filter fun e => !(e.path.toList == p.toList)
theorem offP_mem {ts : List En} {p : ByteArray} (e : En) : e ∈ offP ts p ↔ e ∈ ts ∧ e.path ≠ p := by
  unfold offP
  rw [List.mem_filter, Bool.not_eq_true']
  refine and_congr Iff.rfl ?_
  exact neb_iff
theorem offP_asc {ts : List En} {p : ByteArray} (h : Asc ts) : Asc (offP ts p) := List.Pairwise.filter _ h
theorem offP_take {ts : List En} {p : ByteArray} {k : Nat} (hk : k < ts.length) : offP (ts.take (k + 1)) p = if ts[k].path.toList == p.toList then offP (ts.take k) p else offP (ts.take k) p ++ [ts[k]] := by
  rw [List.take_succ_eq_append_getElem hk]
  unfold offP
  rw [List.filter_append]
  cases h : ts[k].path.toList == p.toList <;> simp [h]
theorem offP_len {ts : List En} {p : ByteArray} : (offP ts p).length ≤ ts.length := List.length_filter_le _ _

/-- What l6Lay makes. -/
def LayRel (ts : List En) (p : ByteArray) (f : Fl) (us : List En) : Prop :=
  if f.there = true then SetRel (offP ts p) ⟨p, f.text, f.runs⟩ us else us = offP ts p
theorem LayRel.asc {ts : List En} {p : ByteArray} {f : Fl} {us : List En} (hA : Asc ts) (h : LayRel ts p f us) : Asc us := by
  unfold LayRel at h
  split at h
  · exact h.asc
  · rw [h]; exact offP_asc hA
theorem LayRel.mem {ts : List En} {p : ByteArray} {f : Fl} {us : List En} (h : LayRel ts p f us) (e : En) : e ∈ us ↔ (f.there = true ∧ e = ⟨p, f.text, f.runs⟩) ∨ (e ∈ ts ∧ e.path ≠ p) := by
  unfold LayRel at h
  split at h
  · rename_i ht
    rw [h.mem, offP_mem]
    constructor
    · rintro (rfl | ⟨⟨h1, h2⟩, _⟩)
      · exact .inl ⟨ht, rfl⟩
      · exact .inr ⟨h1, h2⟩
    · rintro (⟨_, rfl⟩ | ⟨h1, h2⟩)
      · exact .inl rfl
      · exact .inr ⟨⟨h1, h2⟩, h2⟩
  · rename_i ht
    rw [h, offP_mem]
    constructor
    · exact .inr
    · rintro (⟨h1, _⟩ | h1)
      · exact absurd h1 ht
      · exact h1

/-- A list with all changes laid. -/
structure AppRel (ts : List En) (cs : List Ch) (us : List En) : Prop where
  asc : Asc us
  mem : ∀ e, e ∈ us ↔ (∃ c ∈ cs, c.new.there = true ∧ e = ⟨c.path, c.new.text, c.new.runs⟩) ∨ (e ∈ ts ∧ ∀ c ∈ cs, c.path ≠ e.path)
theorem AppRel.one {ts : List En} {cs : List Ch} {us us' : List En} (h : AppRel ts cs us) (h' : AppRel ts cs us') : us = us' :=
  asc_unique h.asc h'.asc (fun e => by rw [h.mem, h'.mem])
theorem AppRel.start {ts : List En} (h : Asc ts) : AppRel ts [] ts := ⟨h, fun e => by simp⟩
theorem AppRel.step {ts : List En} {cs : List Ch} {us us' : List En} {k : Nat} (hk : k < cs.length) (hC : AscK Ch.path cs) (h : AppRel ts (cs.take k) us) (hl : LayRel us cs[k].path cs[k].new us') : AppRel ts (cs.take (k + 1)) us' := by
  refine ⟨hl.asc h.asc, fun e => ?_⟩
  have hlt : ∀ c ∈ cs.take k, c.path ≠ cs[k].path := fun c hc => by
    obtain ⟨i, hi, rfl⟩ := List.getElem_of_mem hc
    rw [List.getElem_take]
    have hi2 : i < k := by simp at hi; omega
    exact less_ne (List.pairwise_iff_getElem.1 hC i k (by omega) hk hi2)
  have htk : ∀ c, c ∈ cs.take (k + 1) ↔ c ∈ cs.take k ∨ c = cs[k] := fun c => by
    rw [List.take_succ_eq_append_getElem hk, List.mem_append, List.mem_singleton]
  rw [hl.mem, h.mem]
  constructor
  · rintro (⟨h1, rfl⟩ | ⟨⟨c, hc, h1, rfl⟩ | ⟨h1, h2⟩, h3⟩)
    · exact .inl ⟨cs[k], (htk _).2 (.inr rfl), h1, rfl⟩
    · exact .inl ⟨c, (htk _).2 (.inl hc), h1, rfl⟩
    · refine .inr ⟨h1, fun c hc => ?_⟩
      rcases (htk c).1 hc with h4 | h4
      · exact h2 c h4
      · rw [h4]; exact fun e' => h3 e'.symm
  · rintro (⟨c, hc, h1, rfl⟩ | ⟨h1, h2⟩)
    · rcases (htk c).1 hc with h4 | h4
      · exact .inr ⟨.inl ⟨c, h4, h1, rfl⟩, hlt c h4⟩
      · subst h4; exact .inl ⟨h1, rfl⟩
    · exact .inr ⟨.inr ⟨h1, fun c hc => h2 c ((htk c).2 (.inl hc))⟩, fun e' => h2 cs[k] ((htk _).2 (.inr rfl)) e'.symm⟩

/-- What one round of impl's loop puts behind. -/
def outA (z : En) : Option En → Option Ch → List En
  | e, none => [e.getD z]
  | _, some c => if c.new.there = true then [⟨c.path, c.new.text, c.new.runs⟩] else []
theorem outA_some (z : En) (e : Option En) (c : Ch) : outA z e (some c) = if c.new.there = true then [⟨c.path, c.new.text, c.new.runs⟩] else [] := by cases e <;> rfl
theorem outA_none (z : En) (e : Option En) : outA z e none = [e.getD z] := by cases e <;> rfl
theorem app_rows {ts : List En} {cs : List Ch} {ns : List ByteArray} (z : En) (hN : AscN ns) (hm : ∀ p, p ∈ ns ↔ (∃ x ∈ ts, En.path x = p) ∨ ∃ y ∈ cs, Ch.path y = p) (hA : Asc ts) (hC : AscK Ch.path cs) :
    AppRel ts cs (ns.flatMap fun p => outA z (fnd En.path ts p) (fnd Ch.path cs p)) := by
  have hpath : ∀ p ∈ ns, ∀ e ∈ outA z (fnd En.path ts p) (fnd Ch.path cs p), e.path = p := fun p hp e he => by
    cases hc : fnd Ch.path cs p with
    | some c =>
      rw [hc, outA_some] at he
      split at he
      · rw [List.mem_singleton.1 he]; exact (fnd_some hc).2
      · cases he
    | none =>
      rw [hc, outA_none] at he
      have he2 : e = (fnd En.path ts p).getD z := List.mem_singleton.1 he
      cases ht : fnd En.path ts p with
      | some x => rw [ht] at he2; rw [he2]; exact (fnd_some ht).2
      | none =>
        exfalso
        rcases (hm p).1 hp with ⟨x, hx, hxp⟩ | ⟨x, hx, hxp⟩
        · unfold fnd at ht
          rw [List.find?_eq_none] at ht
          exact ht x hx (eqb_iff.2 hxp)
        · unfold fnd at hc
          rw [List.find?_eq_none] at hc
          exact hc x hx (eqb_iff.2 hxp)
  have hone : ∀ p, (outA z (fnd En.path ts p) (fnd Ch.path cs p)).length ≤ 1 := fun p => by
    cases fnd Ch.path cs p with
    | none => rw [outA_none]; simp
    | some c => rw [outA_some]; split <;> simp
  have uniqT : ∀ {x y : En}, x ∈ ts → y ∈ ts → x.path = y.path → x = y := fun {x y} hx hy hxy => by
    obtain ⟨i, hi, rfl⟩ := List.getElem_of_mem hx
    obtain ⟨j, hj, rfl⟩ := List.getElem_of_mem hy
    rcases Nat.lt_trichotomy i j with h | h | h
    · exact absurd hxy (less_ne (List.pairwise_iff_getElem.1 hA i j hi hj h))
    · subst h; rfl
    · exact absurd hxy.symm (less_ne (List.pairwise_iff_getElem.1 hA j i hj hi h))
  have uniqC : ∀ {x y : Ch}, x ∈ cs → y ∈ cs → x.path = y.path → x = y := fun {x y} hx hy hxy => by
    obtain ⟨i, hi, rfl⟩ := List.getElem_of_mem hx
    obtain ⟨j, hj, rfl⟩ := List.getElem_of_mem hy
    rcases Nat.lt_trichotomy i j with h | h | h
    · exact absurd hxy (less_ne (List.pairwise_iff_getElem.1 hC i j hi hj h))
    · subst h; rfl
    · exact absurd hxy.symm (less_ne (List.pairwise_iff_getElem.1 hC j i hj hi h))
  refine ⟨?_, fun e => ?_⟩
  · have key : ∀ l : List ByteArray, AscN l → (∀ p ∈ l, p ∈ ns) → Asc (l.flatMap fun p => outA z (fnd En.path ts p) (fnd Ch.path cs p)) := by
      intro l
      induction l with
      | nil => intro _ _; exact List.Pairwise.nil
      | cons p l ih =>
        intro hl hs
        obtain ⟨h1, h2⟩ := List.pairwise_cons.1 hl
        rw [List.flatMap_cons]
        refine List.pairwise_append.2 ⟨?_, ih h2 (fun q hq => hs q (by simp [hq])), fun x hx y hy => ?_⟩
        · have h3 := hone p
          generalize outA z (fnd En.path ts p) (fnd Ch.path cs p) = m at h3
          match m, h3 with
          | [], _ => exact List.Pairwise.nil
          | [x], _ => exact List.pairwise_singleton _ _
        · obtain ⟨q, hq, hy2⟩ := List.mem_flatMap.1 hy
          rw [hpath p (hs p (by simp)) x hx, hpath q (hs q (by simp [hq])) y hy2]
          exact h1 q hq
    exact key ns hN (fun p hp => hp)
  · constructor
    · intro he
      obtain ⟨p, hp, he2⟩ := List.mem_flatMap.1 he
      cases hc : fnd Ch.path cs p with
      | some c =>
        rw [hc, outA_some] at he2
        split at he2
        · rename_i hth
          exact .inl ⟨c, (fnd_some hc).1, hth, List.mem_singleton.1 he2⟩
        · cases he2
      | none =>
        have hpe := hpath p hp e he2
        rw [hc, outA_none] at he2
        have he3 : e = (fnd En.path ts p).getD z := List.mem_singleton.1 he2
        cases ht : fnd En.path ts p with
        | some x =>
          rw [ht] at he3
          have he4 : e = x := he3
          subst he4
          refine .inr ⟨(fnd_some ht).1, fun c hcc e' => ?_⟩
          unfold fnd at hc
          rw [List.find?_eq_none] at hc
          exact hc c hcc (eqb_iff.2 (by rw [e', hpe]))
        | none =>
          exfalso
          rcases (hm p).1 hp with ⟨x, hx, hxp⟩ | ⟨x, hx, hxp⟩
          · unfold fnd at ht
            rw [List.find?_eq_none] at ht
            exact ht x hx (eqb_iff.2 hxp)
          · unfold fnd at hc
            rw [List.find?_eq_none] at hc
            exact hc x hx (eqb_iff.2 hxp)
    · rintro (⟨c, hc, hth, rfl⟩ | ⟨he, hno⟩)
      · refine List.mem_flatMap.2 ⟨c.path, (hm _).2 (.inr ⟨c, hc, rfl⟩), ?_⟩
        have hf : fnd Ch.path cs c.path = some c := by
          cases h : fnd Ch.path cs c.path with
          | none =>
            unfold fnd at h
            rw [List.find?_eq_none] at h
            exact absurd (eqb_iff.2 rfl) (h c hc)
          | some d => rw [uniqC (fnd_some h).1 hc (fnd_some h).2]
        rw [hf, outA_some, if_pos hth]
        simp
      · refine List.mem_flatMap.2 ⟨e.path, (hm _).2 (.inl ⟨e, he, rfl⟩), ?_⟩
        have hf : fnd En.path ts e.path = some e := by
          cases h : fnd En.path ts e.path with
          | none =>
            unfold fnd at h
            rw [List.find?_eq_none] at h
            exact absurd (eqb_iff.2 rfl) (h e he)
          | some d => rw [uniqT (fnd_some h).1 he (fnd_some h).2]
        have hg : fnd Ch.path cs e.path = none := fnd_none (fun c hc => hno c hc)
        rw [hf, hg, outA_none]
        simp
end Go.Proofs.Ytjlflmbifeocbaa

namespace Go.Proofs.Ytjlflmbifeocbaa
open Go.RowKit

structure EBox (b : Nat) (e : En) (W : World) : Prop where
  c0 : W.cell? ⟨b, 0, none⟩ = some (.string e.path)
  c1 : W.cell? ⟨b, 1, none⟩ = some (.string e.text)
  c2 : W.cell? ⟨b, 2, none⟩ = some (.bool e.runs)

theorem EBox.put {b l : Nat} {e : En} {W : World} (h : EBox b e W) (o : Obj) (hl : l ≠ b) : EBox b e (W.putObj l o) := by
  have hb : (W.putObj l o).heap[b]? = W.heap[b]? := World.putObj_heap_other (fun e => hl e.symm)
  exact ⟨(World.cell?_of_block hb).trans h.c0, (World.cell?_of_block hb).trans h.c1, (World.cell?_of_block hb).trans h.c2⟩
theorem EBox.later {b : Nat} {e : En} {W W' : World} (h : EBox b e W) (hb : Below W.heap.size W W') : EBox b e W' := ⟨cell_later hb h.c0, cell_later hb h.c1, cell_later hb h.c2⟩
end Go.Proofs.Ytjlflmbifeocbaa

namespace Go.Proofs.Ytjlflmbifeocbaa
open Go.RowKit

set_option maxHeartbeats 1000000 in
theorem implTree_any (a : Option Addr) (cap : Nat) (ts : List En) (w : World) (hts : ES w a ts) (hn : ts.length ≤ 1048576) (hz : ∀ e ∈ ts, e.path.size ≤ 1048576) :
    Calls Try.prog 29 #[.agg #[.slice a ts.length cap]] w fun e w' => ∃ bl : Bool, e = .returned (.bool bl) ∧ (bl = true ↔ ValidTs ts) ∧ Below w.heap.size w w' := by
  have hal : Below w.heap.size w (w.alloc (.cells #[.slice a ts.length cap] 25)) := (Below.refl _ _).alloc (Nat.le_refl _) _
  go_enter Try.func29, Try.ntmps29
  go_wp2_with fail
  refine (grow_any a cap ts _ (hts.below hal) hn hz).mono ?_
  rintro e w1 ⟨hb, ⟨hv, root, rfl, _⟩ | ⟨hv, rfl⟩⟩
  · go_wp2
    go_ret
    exact ⟨true, rfl, ⟨fun _ => hv, fun _ => rfl⟩, hal.trans (hb.mono hal.size)⟩
  · go_wp2
    go_ret
    exact ⟨false, rfl, ⟨fun h => (by cases h), fun h => absurd h hv⟩, hal.trans (hb.mono hal.size)⟩
end Go.Proofs.Ytjlflmbifeocbaa

namespace Go.Proofs.Ytjlflmbifeocbaa
open Go.RowKit

def EntPost (p t : ByteArray) (r : Bool) (w : World) (e : Ending) (w' : World) : Prop := e = .returned (.agg #[.string p, .string t, .bool r]) ∧ Below w.heap.size w w'

set_option maxRecDepth 100000 in
set_option maxHeartbeats 4000000 in
theorem entry_any (p t : ByteArray) (r : Bool) (w : World) (hp : p.size ≤ 281474976710656) (ht : t.size ≤ 281474976710656) :
    Calls Try.prog 40 #[.agg #[.bool true, .string t, .bool r], .string p] w fun e w' => EntPost p t r w e w' := by
  have hal : Below w.heap.size w ((w.alloc (.cells #[.bool true, .string t, .bool r] 54)).alloc (.cells #[.string ⟨#[]⟩, .string ⟨#[]⟩, .bool false] 57)) := ((Below.refl _ _).alloc (Nat.le_refl _) _).alloc (by simp) _
  have d1 : ((w.alloc (.cells #[.bool true, .string t, .bool r] 54)).alloc (.cells #[.string ⟨#[]⟩, .string ⟨#[]⟩, .bool false] 57)).cell? ⟨w.heap.size, 1, none⟩ = some (.string t) := by simp
  have d2 : ((w.alloc (.cells #[.bool true, .string t, .bool r] 54)).alloc (.cells #[.string ⟨#[]⟩, .string ⟨#[]⟩, .bool false] 57)).cell? ⟨w.heap.size, 2, none⟩ = some (.bool r) := by simp
  have g0 : ((w.alloc (.cells #[.bool true, .string t, .bool r] 54)).alloc (.cells #[.string ⟨#[]⟩, .string ⟨#[]⟩, .bool false] 57)).cell? ⟨w.heap.size + 1, 0, none⟩ = some (.string ⟨#[]⟩) := by simp
  have g1 : ((w.alloc (.cells #[.bool true, .string t, .bool r] 54)).alloc (.cells #[.string ⟨#[]⟩, .string ⟨#[]⟩, .bool false] 57)).cell? ⟨w.heap.size + 1, 1, none⟩ = some (.string ⟨#[]⟩) := by simp
  have g2 : ((w.alloc (.cells #[.bool true, .string t, .bool r] 54)).alloc (.cells #[.string ⟨#[]⟩, .string ⟨#[]⟩, .bool false] 57)).cell? ⟨w.heap.size + 1, 2, none⟩ = some (.bool false) := by simp
  have hsz : w.heap.size + 1 < ((w.alloc (.cells #[.bool true, .string t, .bool r] 54)).alloc (.cells #[.string ⟨#[]⟩, .string ⟨#[]⟩, .bool false] 57)).heap.size := by simp
  have f0 : ∀ j, ((w.alloc (.cells #[.bool true, .string t, .bool r] 54)).alloc (.cells #[.string ⟨#[]⟩, .string ⟨#[]⟩, .bool false] 57)).frozen? ⟨w.heap.size + 1, j, none⟩ = false := fun j => by simp
  go_enter Try.func40, Try.ntmps40
  go_wp2_with fail
  generalize hw2 : (w.alloc (.cells #[.bool true, .string t, .bool r] 54)).alloc (.cells #[.string ⟨#[]⟩, .string ⟨#[]⟩, .bool false] 57) = w2 at *
  clear hw2
  obtain ⟨g, hg⟩ : ∃ g, g = w.heap.size + 1 := ⟨_, rfl⟩
  obtain ⟨g', hg'⟩ : ∃ g', g' = w.heap.size := ⟨_, rfl⟩
  have hgw : w.heap.size ≤ g := by omega
  rw [← hg] at g0 g1 g2 hsz f0 ⊢
  rw [← hg'] at d1 d2 ⊢
  have HG : Keep (g' = w.heap.size) := ⟨hg'⟩
  have HGW : Keep (w.heap.size ≤ g) := ⟨hgw⟩
  have hal2 : Below w.heap.size w w2 := hal
  clear hal hg hg' hgw
  have q0 : Below w2.heap.size w2 w2.drew := (Below.refl _ _).drew
  have kq : ∀ {W W' : World}, Below w2.heap.size w2 W → Below W.heap.size W W' → Below w2.heap.size w2 W' := fun h h' => h.trans (h'.mono h.size)
  have kF : ∀ {W : World}, Below w2.heap.size w2 W → ∀ j, W.frozen? ⟨g, j, none⟩ = false := fun h j => (h.frozen (p := ⟨g, j, none⟩) hsz).trans (f0 j)
  go_region_with (first | (go_at_call_of 58 p; refine (clone_any p _ hp).mono ?_; rintro e w3 ⟨rfl, hb3⟩; have q : Below w2.heap.size w2 w3 := (by first | exact kq q hb3 | exact kq q0 hb3); have p1 := cell_later q d1; have p2 := cell_later q d2; have p3 := cell_later q g0; have p4 := cell_later q g1; have p5 := cell_later q g2; have pf := kF q) | (go_at_call_of 58 t; refine (clone_any t _ ht).mono ?_; rintro e w3 ⟨rfl, hb3⟩; have q : Below w2.heap.size w2 w3 := (by first | exact kq q hb3 | exact kq q0 hb3); have p1 := cell_later q d1; have p2 := cell_later q d2; have p3 := cell_later q g0; have p4 := cell_later q g1; have p5 := cell_later q g2; have pf := kF q))
  all_goals
    have hbl : Below w.heap.size w w3 := hal2.trans (q.mono hal2.size)
    go_wp2
    refine bodyPost_ret (v := .agg #[.string p, .string t, .bool r]) ?_ rfl ⟨rfl, ?_⟩
    · go_light
      simp [results, Try.results40, go_sem, p3, p4, p5]
    · have hgw := HGW.out
      exact ((hbl.setCell (p := ⟨g, 0, none⟩) hgw _).setCell (p := ⟨g, 1, none⟩) hgw _).setCell (p := ⟨g, 2, none⟩) hgw _
end Go.Proofs.Ytjlflmbifeocbaa

namespace Go.Proofs.Ytjlflmbifeocbaa
open Go.RowKit Go.Shelf

theorem sideEC_iter (Ba Bb : Nat) (a b : Option Addr) (ca cb : Nat) (ts : List En) (us : List Ch) (hca : ts.length ≤ ca) (hcb : us.length ≤ cb) (hnt : ts.length ≤ 1048576) (hnu : us.length ≤ 1048576) :
    Iter 61 #[.pointer (some ⟨Ba, 0, none⟩), .pointer (some ⟨Bb, 0, none⟩)] yEC (mrgEC ts us) (sideMemEC Ba Bb a b ca cb ts us) :=
  fun n l J Jx W hM hJ hY h0 => sideEC1_in n l Ba Bb a b ca cb ts us hca hcb hnt hnu J Jx W hM hJ hY h0

theorem OutSt.own_lt {h : Nat} {W0 W : World} {v : Value} {us : List En} (s : OutSt h W0 v us W) {k : Nat} (hk : v.ownBlock = some k) : k < W.heap.size := by
  rcases s.row.2 with ⟨e, _⟩ | ⟨g, cap, cur, e, _, hg, _⟩
  · rw [e] at hk; simp [Value.ownBlock] at hk
  · rw [e] at hk; simp [Value.ownBlock] at hk; subst hk; exact (Array.getElem?_eq_some_iff.1 hg).1
theorem OutSt.other {h B : Nat} {W0 W W' : World} {v : Value} {us : List En} (s : OutSt h W0 v us W) (hg : W.grownBy W' (some B)) (hB : W0.heap.size ≤ B) (hv : v.ownBlock ≠ some B) : OutSt h W0 v us W' := by
  have hl := s.lt
  have hh := hg.block h s.size (fun e => by cases e; omega)
  refine ⟨(World.cell?_of_block hh).trans s.cell, frozen_of hh s.fz, s.row.kept hg (Or.inr hv), ⟨hg.os.trans s.grown.os, hg.tape.trans s.grown.tape, hg.output.trans s.grown.output, Nat.le_trans s.grown.size hg.size, fun k hk hne => ?_⟩, hl⟩
  exact (hg.block k (Nat.lt_of_lt_of_le hk s.grown.size) (fun e => by cases e; omega)).trans (s.grown.block k hk hne)
theorem OutSt.putJ {h l : Nat} {W0 W : World} {v : Value} {us : List En} (s : OutSt h W0 v us W) (o : Obj) (hl : l < W0.heap.size) (hne : l ≠ h) : OutSt h (W0.putObj l o) v us (W.putObj l o) := by
  have hb : ∀ (X : World) (k : Nat), k ≠ l → (X.putObj l o).heap[k]? = X.heap[k]? := fun X k hk => World.putObj_heap_other hk
  have hh := hb W h (fun e => hne e.symm)
  have hg : W.grownBy (W.putObj l o) (some l) := ⟨rfl, rfl, rfl, by simp, fun k _ hk => hb W k (fun e => hk (by rw [e]))⟩
  have hlW := Nat.lt_of_lt_of_le hl s.grown.size
  refine ⟨(World.cell?_of_block hh).trans s.cell, frozen_of hh s.fz, ?_, ⟨s.grown.os, s.grown.tape, s.grown.output, by simpa using s.grown.size, fun k hk hkh => ?_⟩, by simpa using s.lt⟩
  · have h1 := s.row.kept hg (Or.inr (fun e => by have := owns_row_ge s.row e; omega))
    simpa using h1
  · have hk' : k < W0.heap.size := by simpa using hk
    by_cases e : k = l
    · subst e
      rw [World.putObj_heap_same hlW, World.putObj_heap_same hl]
    · rw [hb W k e, hb W0 k e]
      exact s.grown.block k hk' hkh


def outsA (pre : List PEC) : List En := pre.flatMap fun x => outA zeroE x.2.1 x.2.2
theorem outsA_snoc (pre : List PEC) (x : PEC) : outsA (pre ++ [x]) = outsA pre ++ outA zeroE x.2.1 x.2.2 := by simp [outsA]
theorem outA_len (z : En) (e : Option En) (c : Option Ch) : (outA z e c).length ≤ 1 := by
  cases c with
  | none => rw [outA_none]; simp
  | some c => rw [outA_some]; split <;> simp
theorem outsA_len (pre : List PEC) : (outsA pre).length ≤ pre.length := by
  induction pre with
  | nil => simp [outsA]
  | cons x pre ih =>
    have h1 : outsA (x :: pre) = outA zeroE x.2.1 x.2.2 ++ outsA pre := by simp [outsA]
    have h2 := outA_len zeroE x.2.1 x.2.2
    rw [h1, List.length_append, List.length_cons]
    omega

theorem mrg_lenA {α β : Type} (pa : α → ByteArray) (pb : β → ByteArray) : ∀ (n : Nat) (ts : List α) (us : List β), (mrg pa pb n ts us).length ≤ n
  | 0, _, _ => by simp [mrg]
  | n + 1, [], [] => by simp [mrg]
  | n + 1, [], y :: us => by have := mrg_lenA pa pb n [] us; simp only [mrg, List.length_cons]; omega
  | n + 1, x :: ts, [] => by have := mrg_lenA pa pb n ts []; simp only [mrg, List.length_cons]; omega
  | n + 1, x :: ts, y :: us => by
    have h1 := mrg_lenA pa pb n ts (y :: us)
    have h2 := mrg_lenA pa pb n (x :: ts) us
    have h3 := mrg_lenA pa pb n ts us
    simp only [mrg]
    split
    · simp only [List.length_cons]; omega
    · split
      · simp only [List.length_cons]; omega
      · simp only [List.length_cons]; omega
theorem names_of : ∀ l : List ByteArray, ∃ ns, AscN ns ∧ ∀ p, p ∈ ns ↔ p ∈ l
  | [] => ⟨[], List.Pairwise.nil, fun p => Iff.rfl⟩
  | q :: l => by
    obtain ⟨ns, h1, h2⟩ := names_of l
    have h3 := nameL_asc (s := q) h1
    refine ⟨nameL ns q, h3.1, fun p => ?_⟩
    rw [h3.2, h2, List.mem_cons]
    exact ⟨fun h => h.elim .inr .inl, fun h => h.elim .inr .inl⟩
theorem vp_asc {cs : List Ch} (h : ValidP cs) : AscK Ch.path cs := by
  have key : ∀ i, i < cs.length → ∀ j, j < i → ∀ (hi : i < cs.length) (hj : j < cs.length), Op.bytesLess cs[j].path.toList cs[i].path.toList = true := by
    intro i
    induction i with
    | zero => intro _ j hj; omega
    | succ i ih =>
      intro hi j hj hi' hj'
      obtain ⟨_, _, h1⟩ := h.2 (i + 1) hi
      have h2 := h1 i rfl (by omega)
      by_cases e : j = i
      · subst e; exact h2
      · exact less_trans (ih (by omega) j (by omega) (by omega) hj') h2
  exact List.pairwise_iff_getElem.2 fun i j hi hj hij => key j hj i hij hj hi
theorem mrgEC_rows {ts : List En} {cs : List Ch} (ht : ValidTs ts) (hc : ValidP cs) : ∃ ns, AscN ns ∧ (∀ p, p ∈ ns ↔ (∃ x ∈ ts, En.path x = p) ∨ ∃ y ∈ cs, Ch.path y = p) ∧ mrgEC ts cs = ns.map fun p => (p, fnd En.path ts p, fnd Ch.path cs p) := by
  obtain ⟨ns, h1, h2⟩ := names_of (ts.map En.path ++ cs.map Ch.path)
  have h3 : ∀ p, p ∈ ns ↔ (∃ x ∈ ts, En.path x = p) ∨ ∃ y ∈ cs, Ch.path y = p := fun p => by
    rw [h2, List.mem_append, List.mem_map, List.mem_map]
  exact ⟨ns, h1, h3, mrg_eq En.path Ch.path (ts.length + cs.length) ts cs ns (Nat.le_refl _) (valid_asc ht) (vp_asc hc) h1 h3⟩
theorem outs_app {ts : List En} {cs : List Ch} (ht : ValidTs ts) (hc : ValidP cs) : AppRel ts cs (outsA (mrgEC ts cs)) := by
  obtain ⟨ns, h1, h2, h3⟩ := mrgEC_rows ht hc
  have h4 := app_rows zeroE h1 h2 (valid_asc ht) (vp_asc hc)
  unfold outsA
  rw [h3, List.flatMap_map]
  exact h4
/-- The file is another one than the change says. -/
def badA (e : Option En) : Option Ch → Bool
  | some c => !sameF (fileE (e.getD zeroE)) c.old
  | none => false
theorem bad_iff {ts : List En} {cs : List Ch} (ht : ValidTs ts) (hc : ValidP cs) : (∃ x ∈ mrgEC ts cs, badA x.2.1 x.2.2 = true) ↔ ∃ c ∈ cs, sameF (atL ts c.path) c.old = false := by
  obtain ⟨ns, h1, h2, h3⟩ := mrgEC_rows ht hc
  rw [h3]
  constructor
  · rintro ⟨x, hx, hb⟩
    obtain ⟨p, hp, rfl⟩ := List.mem_map.1 hx
    cases hf : fnd Ch.path cs p with
    | none => simp only [hf] at hb; cases hb
    | some c =>
      obtain ⟨hcm, rfl⟩ := fnd_some hf
      simp only [hf, badA] at hb
      rw [fileE_at ht] at hb
      exact ⟨c, hcm, by simpa using hb⟩
  · rintro ⟨c, hcm, hs⟩
    refine ⟨_, List.mem_map.2 ⟨c.path, (h2 _).2 (.inr ⟨c, hcm, rfl⟩), rfl⟩, ?_⟩
    have hf : fnd Ch.path cs c.path = some c := by
      cases h : fnd Ch.path cs c.path with
      | none =>
        unfold fnd at h
        rw [List.find?_eq_none] at h
        exact absurd (eqb_iff.2 rfl) (h c hcm)
      | some d =>
        obtain ⟨hd1, hd2⟩ := fnd_some h
        have hA := vp_asc hc
        obtain ⟨i, hi, rfl⟩ := List.getElem_of_mem hd1
        obtain ⟨j, hj, rfl⟩ := List.getElem_of_mem hcm
        rcases Nat.lt_trichotomy i j with h' | h' | h'
        · exact absurd hd2 (less_ne (List.pairwise_iff_getElem.1 hA i j hi hj h'))
        · subst h'; rfl
        · exact absurd hd2.symm (less_ne (List.pairwise_iff_getElem.1 hA j i hj hi h'))
    simp only [hf, badA]
    rw [fileE_at ht, hs]
    rfl
/-- Which of the two lists have a path. -/
theorem mrgEC_cases {ts : List En} {cs : List Ch} (ht : ValidTs ts) (hc : ValidP cs) {x : PEC} (hx : x ∈ mrgEC ts cs) :
    (∃ d ∈ cs, x = (d.path, none, some d) ∧ ∀ e ∈ ts, e.path ≠ d.path) ∨ (∃ e ∈ ts, x = (e.path, some e, none)) ∨ ∃ e ∈ ts, ∃ d ∈ cs, d.path = e.path ∧ x = (e.path, some e, some d) := by
  obtain ⟨ns, h1, h2, h3⟩ := mrgEC_rows ht hc
  rw [h3] at hx
  obtain ⟨n, hn, rfl⟩ := List.mem_map.1 hx
  cases h1 : fnd En.path ts n with
  | none =>
    have hno : ∀ e ∈ ts, e.path ≠ n := fun e he e' => by
      unfold fnd at h1
      rw [List.find?_eq_none] at h1
      exact h1 e he (eqb_iff.2 e')
    cases h4 : fnd Ch.path cs n with
    | none =>
      exfalso
      rcases (h2 n).1 hn with ⟨z, hz, hzn⟩ | ⟨z, hz, hzn⟩
      · exact hno z hz hzn
      · unfold fnd at h4
        rw [List.find?_eq_none] at h4
        exact h4 z hz (eqb_iff.2 hzn)
    | some d =>
      obtain ⟨h5, rfl⟩ := fnd_some h4
      exact .inl ⟨d, h5, rfl, hno⟩
  | some e =>
    obtain ⟨h5, rfl⟩ := fnd_some h1
    cases h4 : fnd Ch.path cs e.path with
    | none => exact .inr (.inl ⟨e, h5, rfl⟩)
    | some d =>
      obtain ⟨h6, h7⟩ := fnd_some h4
      exact .inr (.inr ⟨e, h5, d, h6, h7, rfl⟩)
end Go.Proofs.Ytjlflmbifeocbaa

namespace Go.Proofs.Ytjlflmbifeocbaa
open Go.RowKit

theorem getD_put {L : Array Bool} {m : Nat} (hL : L.getD m true = false) : (L.setIfInBounds m true).getD m false = true := by
  have h1 := getD_false hL
  have h2 : m < L.size := by simpa using (List.getElem?_eq_some_iff.1 h1).1
  rw [Array.getD_eq_getD_getElem?, Array.getElem?_setIfInBounds_self_of_lt h2]
  rfl

/-- A region whose own operations only read. -/
structure QV (T0 : Array Value) (ds : List Nat) (tab : Nat → Option Value) (W : World) (L : Array Bool) (a : Act) (w : World) : Prop where
  sl : Sl2 T0 ds tab L a
  wd : Below W.heap.size W w
theorem QV.step {T0 : Array Value} {ds : List Nat} {tab : Nat → Option Value} {W : World} {L : Array Bool} {a : Act} {w w' : World} (h : QV T0 ds tab W L a w) (nd : ds.Nodup) {i : Nat} {v : Value} (hi : i < ds.length) (hd : ds[i] < T0.size) (ht : tab i = some v) (hb : Below w.heap.size w w') : QV T0 ds tab W (L.setIfInBounds i true) (a.put (some ds[i]) v) w' :=
  ⟨h.sl.put nd hi hd (fun u hu => by rw [ht] at hu; cases hu; rfl), h.wd.trans (hb.mono h.wd.size)⟩

/-- A region whose last operation (m) alone writes. -/
structure RX (T0 : Array Value) (ds : List Nat) (tab : Nat → Option Value) (W : World) (m : Nat) (E : World → Prop) (L : Array Bool) (a : Act) (w : World) : Prop where
  sl : Sl2 T0 ds tab L a
  wd : L.getD m false = false → Below W.heap.size W w
  fin : L.getD m false = true → E w
theorem RX.step {T0 : Array Value} {ds : List Nat} {tab : Nat → Option Value} {W : World} {m : Nat} {E : World → Prop} {L : Array Bool} {a : Act} {w w' : World} (h : RX T0 ds tab W m E L a w) (nd : ds.Nodup) {i : Nat} {v : Value} (hi : i < ds.length) (hd : ds[i] < T0.size) (hm : i ≠ m) (h0 : L.getD m false = false) (ht : tab i = some v) (hb : Below w.heap.size w w') : RX T0 ds tab W m E (L.setIfInBounds i true) (a.put (some ds[i]) v) w' := by
  have g : (L.setIfInBounds i true).getD m false = false := by rw [getD_set_ne false hm]; exact h0
  exact ⟨h.sl.put nd hi hd (fun u hu => by rw [ht] at hu; cases hu; rfl), fun _ => (h.wd h0).trans (hb.mono (h.wd h0).size), fun h1 => by rw [g] at h1; cases h1⟩
theorem RX.last {T0 : Array Value} {ds : List Nat} {tab : Nat → Option Value} {W : World} {m : Nat} {E : World → Prop} {L : Array Bool} {a : Act} {w w' : World} (h : RX T0 ds tab W m E L a w) (ht : tab m = none) (hL : L.getD m true = false) (hE : E w') : RX T0 ds tab W m E (L.setIfInBounds m true) a w' := by
  have g := getD_put hL
  exact ⟨h.sl.skip ht, (fun h1 => by rw [g] at h1; cases h1), fun _ => hE⟩

/-- The region that makes the round's change, the one that holds the files against each other. -/
def sTab (B : Nat) (e : En) : Nat → Option Value
  | 0 => some (.pointer (some ⟨B, 0, none⟩))
  | 1 => some (.string e.path)
  | 2 => some (.agg #[.string e.path, .string e.text, .bool e.runs])
  | 3 => some (.agg #[.bool (fileE e).there, .string (fileE e).text, .bool (fileE e).runs])
  | 4 => some (.agg #[.string e.path, .bool (fileE e).there, .string (fileE e).text, .bool (fileE e).runs, .bool (fileE e).there, .string (fileE e).text, .bool (fileE e).runs])
  | _ => none
def sDs : List Nat := [28, 29, 30, 31, 32, 1000]
theorem sNd : sDs.Nodup := by decide
def fTab (B : Nat) (e : En) (f : Fl) (nb : Bool) : Nat → Option Value
  | 0 => some (.agg #[.string e.path, .string e.text, .bool e.runs])
  | 1 => some (.agg #[.bool (fileE e).there, .string (fileE e).text, .bool (fileE e).runs])
  | 2 => some (.pointer (some ⟨B + 1, 1, none⟩))
  | 3 => some (.agg #[.bool f.there, .string f.text, .bool f.runs])
  | 4 => some (.bool nb)
  | _ => none
def fDs : List Nat := [33, 34, 35, 36, 37]
theorem fNd : fDs.Nodup := by decide

/-- The region that puts an entry behind. -/
def nTab (ob B : Nat) (v : Value) (p t : ByteArray) (r : Bool) : Nat → Option Value
  | 0 => some (.pointer (some ⟨ob, 0, none⟩))
  | 1 => some v
  | 2 => some (.pointer (some ⟨B + 1, 4, none⟩))
  | 3 => some (.agg #[.bool true, .string t, .bool r])
  | 4 => some (.pointer (some ⟨B + 1, 0, none⟩))
  | 5 => some (.string p)
  | 6 => some (.agg #[.string p, .string t, .bool r])
  | 9 => some (.pointer (some ⟨ob, 0, none⟩))
  | _ => none
def nDs : List Nat := [42, 43, 44, 45, 46, 47, 48, 49, 50, 51, 1000]
theorem nNd : nDs.Nodup := by decide
structure NV (T0 : Array Value) (ob B : Nat) (Wz X : World) (v : Value) (p t : ByteArray) (r : Bool) (us : List En) (L : Array Bool) (a : Act) (w : World) : Prop where
  sl : Sl2 T0 nDs (nTab ob B v p t r) L a
  w0 : L.getD 7 false = false → Below X.heap.size X w
  w1 : L.getD 7 false = true → L.getD 8 false = false → ∃ y : World, Below X.heap.size X y ∧ w = y.alloc (.cells #[.string p, .string t, .bool r] 57) ∧ a.eval (.tmp 49) = .slice (some ⟨y.heap.size, 0, none⟩) 1 1
  w2 : L.getD 8 false = true → L.getD 10 false = false → ∃ (W1 : World) (g2 cap : Nat), a.eval (.tmp 50) = .slice (some ⟨g2, 0, none⟩) (us.length + 1) cap ∧ Below X.heap.size X W1 ∧ w.ownsRow Wz.heap.size 57 3 (.slice (some ⟨g2, 0, none⟩) (us.length + 1) cap) (us.length + 1) (ecells us ++ ecell ⟨p, t, r⟩) ∧ W1.grownBy w v.ownBlock
  w3 : L.getD 10 false = true → ∃ v', OutSt ob Wz v' (us ++ [⟨p, t, r⟩]) w
theorem NV.below {T0 : Array Value} {ob B : Nat} {Wz X : World} {v : Value} {p t : ByteArray} {r : Bool} {us : List En} {L : Array Bool} {a : Act} {w : World} (h : NV T0 ob B Wz X v p t r us L a w) (h8 : L.getD 8 false = false) : Below X.heap.size X w := by
  cases h7 : L.getD 7 false with
  | false => exact h.w0 h7
  | true =>
    obtain ⟨y, hy, rfl, _⟩ := h.w1 h7 h8
    exact hy.alloc hy.size _
theorem NV.step {T0 : Array Value} {ob B : Nat} {Wz X : World} {v : Value} {p t : ByteArray} {r : Bool} {us : List En} {L : Array Bool} {a : Act} {w w' : World} (h : NV T0 ob B Wz X v p t r us L a w) {i : Nat} {u : Value} (hT : T0.size = 57) (hi : i < 10) (h7 : i ≠ 7) (h8 : i ≠ 8) (ht : nTab ob B v p t r i = some u)
    (hw : w' = w ∨ (Below w.heap.size w w' ∧ L.getD 7 false = false ∧ L.getD 8 false = false ∧ L.getD 10 false = false)) :
    NV T0 ob B Wz X v p t r us (L.setIfInBounds i true) (a.put (some (42 + i)) u) w' := by
  have hlen : i < nDs.length := by show i < 11; omega
  have hds : nDs[i] = 42 + i := by
    match i, hi with
    | 0, _ | 1, _ | 2, _ | 3, _ | 4, _ | 5, _ | 6, _ | 7, _ | 8, _ | 9, _ => rfl
  have hsl := h.sl.put nNd hlen (by rw [hds, hT]; omega) (v := u) (fun u' hu => by rw [ht] at hu; cases hu; rfl)
  rw [hds] at hsl
  have ev : ∀ k, k ≠ 42 + i → (a.put (some (42 + i)) u).eval (.tmp k) = a.eval (.tmp k) := fun k hk => Act.eval_put (fun d hd' => by cases hd'; intro e'; injection e' with e'; exact hk e')
  refine ⟨hsl, fun h1 => ?_, fun h1 h2 => ?_, fun h1 h2 => ?_, fun h1 => ?_⟩
  · rw [getD_set_ne false h7] at h1
    rcases hw with rfl | ⟨hb, _⟩
    · exact h.w0 h1
    · exact (h.w0 h1).trans (hb.mono (h.w0 h1).size)
  · rw [getD_set_ne false h7] at h1; rw [getD_set_ne false h8] at h2
    rcases hw with rfl | ⟨_, h3, _⟩
    · rw [ev 49 (by omega)]; exact h.w1 h1 h2
    · rw [h3] at h1; cases h1
  · rw [getD_set_ne false h8] at h1; rw [getD_set_ne false (by omega)] at h2
    rcases hw with rfl | ⟨_, _, h3, _⟩
    · rw [ev 50 (by omega)]; exact h.w2 h1 h2
    · rw [h3] at h1; cases h1
  · rw [getD_set_ne false (by omega)] at h1
    rcases hw with rfl | ⟨_, _, _, h3⟩
    · exact h.w3 h1
    · rw [h3] at h1; cases h1
theorem NV.build {T0 : Array Value} {ob B : Nat} {Wz X : World} {v : Value} {p t : ByteArray} {r : Bool} {us : List En} {L : Array Bool} {a : Act} {w : World} (h : NV T0 ob B Wz X v p t r us L a w) (hT : T0.size = 57) (h8 : L.getD 8 false = false) (h10 : L.getD 10 false = false) (hL : L.getD 7 true = false) :
    NV T0 ob B Wz X v p t r us (L.setIfInBounds 7 true) (a.put (some 49) (.slice (some ⟨w.heap.size, 0, none⟩) 1 1)) (w.alloc (.cells #[.string p, .string t, .bool r] 57)) := by
  have g := getD_put hL
  refine ⟨h.sl.put (i := 7) nNd (by decide) (show 49 < _ by rw [hT]; omega) (fun u hu => by cases hu), fun h1 => ?_, fun _ _ => ⟨w, h.w0 (getD_ft hL), rfl, ?_⟩, fun h1 _ => ?_, fun h1 => ?_⟩
  · rw [g] at h1; cases h1
  · show ((a.tmps.setIfInBounds 49 _).getD 49 undef) = _
    rw [Array.getD_eq_getD_getElem?, Array.getElem?_setIfInBounds_self_of_lt (by rw [h.sl.sz, hT]; omega)]
    rfl
  · rw [getD_set_ne false (by omega), h8] at h1; cases h1
  · rw [getD_set_ne false (by omega), h10] at h1; cases h1
theorem NV.app {T0 : Array Value} {ob B : Nat} {Wz X W1 : World} {v : Value} {p t : ByteArray} {r : Bool} {us : List En} {L : Array Bool} {a : Act} {w w' : World} (h : NV T0 ob B Wz X v p t r us L a w) (hT : T0.size = 57) (h7 : L.getD 7 false = true) (h10 : L.getD 10 false = false) (hL : L.getD 8 true = false) {g2 cap : Nat} (hX : Below X.heap.size X W1)
    (e2 : w'.ownsRow Wz.heap.size 57 3 (.slice (some ⟨g2, 0, none⟩) (us.length + 1) cap) (us.length + 1) (ecells us ++ ecell ⟨p, t, r⟩)) (e3 : W1.grownBy w' v.ownBlock) :
    NV T0 ob B Wz X v p t r us (L.setIfInBounds 8 true) (a.put (some 50) (.slice (some ⟨g2, 0, none⟩) (us.length + 1) cap)) w' := by
  have g := getD_put hL
  refine ⟨h.sl.put (i := 8) nNd (by decide) (show 50 < _ by rw [hT]; omega) (fun u hu => by cases hu), fun h1 => ?_, fun _ h2 => ?_, fun _ _ => ⟨W1, g2, cap, ?_, hX, e2, e3⟩, fun h1 => ?_⟩
  · rw [getD_set_ne false (by omega), h7] at h1; cases h1
  · rw [g] at h2; cases h2
  · show ((a.tmps.setIfInBounds 50 _).getD 50 undef) = _
    rw [Array.getD_eq_getD_getElem?, Array.getElem?_setIfInBounds_self_of_lt (by rw [h.sl.sz, hT]; omega)]
    rfl
  · rw [getD_set_ne false (by omega), h10] at h1; cases h1
theorem NV.last {T0 : Array Value} {ob B : Nat} {Wz X : World} {v : Value} {p t : ByteArray} {r : Bool} {us : List En} {L : Array Bool} {a : Act} {w w' : World} (h : NV T0 ob B Wz X v p t r us L a w) (h7 : L.getD 7 false = true) (h8 : L.getD 8 false = true) (hL : L.getD 10 true = false) (hE : ∃ v', OutSt ob Wz v' (us ++ [⟨p, t, r⟩]) w') :
    NV T0 ob B Wz X v p t r us (L.setIfInBounds 10 true) a w' := by
  have g := getD_put hL
  refine ⟨h.sl.skip rfl, fun h1 => ?_, fun _ h2 => ?_, fun _ h2 => ?_, fun _ => hE⟩
  · rw [getD_set_ne false (by omega), h7] at h1; cases h1
  · rw [getD_set_ne false (by omega), h8] at h2; cases h2
  · rw [g] at h2; cases h2
/-- An append, at a step of a region (RegV) in a round. -/
theorem wpIn_appendR {l n : Nat} {P : Program} {o : Oper} {a : Act} {w w' : World} {K : Act → World → Prop} {Q : Exit → Act → World → Prop} (s x : Operand) (t : TypeId) (ho : o.op = .call { callee := .builtin .append, args := #[s, x], argTypes := #[t, t] }) {v u v' : Value} (hs : a.eval s = v) (hx : a.eval x = u)
    (hr : (Builtin.append_ #[t, t] o.type #[v, u]).run P w = .ok v' w') (hK : K (a.put o.dst v') w') : o.wpIn (Fence.wide.inRound l) n P a w K Q := by
  refine ⟨fun f _ => trivial, ?_⟩
  show Oper.uponIn (Fence.wide.inRound l) n P o a K Q ((Oper.semAt (some l) a.eval o).run P w)
  rw [Oper.semAt_some l a.eval o (fun c e => by rw [ho] at e; cases e)]
  unfold execOp
  simp only [ho, resolve, invoke, builtin, Sem.run_bind, Sem.run_pure, Result.andThen_ok, List.map_toArray, List.map_cons, List.map_nil, hs, hx, hr]
  exact hK

theorem EBox.grown {b : Nat} {e : En} {W W' : World} {row : Option Nat} (h : EBox b e W) (hg : W.grownBy W' row) (hr : row ≠ some b) : EBox b e W' := by
  have hb := hg.block b (World.block_lt_of_cell? W ⟨b, 0, none⟩ h.c0) (fun e => hr e.symm)
  exact ⟨(World.cell?_of_block hb).trans h.c0, (World.cell?_of_block hb).trans h.c1, (World.cell?_of_block hb).trans h.c2⟩

/-- The change that a round goes by. -/
def chA (e : Option En) (c : Option Ch) : Ch := c.getD ⟨(e.getD zeroE).path, fileE (e.getD zeroE), fileE (e.getD zeroE)⟩
theorem sameF_self (f : Fl) : sameF f f = true := by simp [sameF]
theorem round_facts {ts : List En} {cs : List Ch} (ht : ValidTs ts) (hc : ValidP cs) {x : PEC} (hx : x ∈ mrgEC ts cs) :
    badA x.2.1 x.2.2 = !sameF (fileE (x.2.1.getD zeroE)) (chA x.2.1 x.2.2).old ∧
    outA zeroE x.2.1 x.2.2 = (if (chA x.2.1 x.2.2).new.there = true then [⟨(chA x.2.1 x.2.2).path, (chA x.2.1 x.2.2).new.text, (chA x.2.1 x.2.2).new.runs⟩] else []) ∧
    (chA x.2.1 x.2.2).path.size ≤ 1048576 ∧ (chA x.2.1 x.2.2).new.text.size ≤ 1048576 ∧
    (x.2.2 = none ∨ ∃ d, x.2.2 = some d ∧ (d.path.toList == ([] : List UInt8)) = false) := by
  have hsz : ∀ {s : ByteArray}, pathOk pathB s = true → s.size ≤ 1048576 := fun h => by have := pathOk_size h; omega
  have hd : ∀ d ∈ cs, (d.path.toList == ([] : List UInt8)) = false ∧ d.path.size ≤ 1048576 ∧ d.new.text.size ≤ 1048576 := fun d h => by
    obtain ⟨i, hi, rfl⟩ := List.getElem_of_mem h
    obtain ⟨_, h1, _⟩ := hc.2 i hi
    simp only [chOk, flOk, Bool.and_eq_true, decide_eq_true_eq, Bool.not_eq_true'] at h1
    obtain ⟨⟨⟨h1, h2, _⟩, h3, _⟩, h4⟩ := h1
    exact ⟨path_ne0 h1, hsz h1, by omega⟩
  rcases mrgEC_cases ht hc hx with ⟨d, h1, rfl, _⟩ | ⟨e, h1, rfl⟩ | ⟨e, h1, d, h2, h3, rfl⟩
  · exact ⟨rfl, outA_some _ _ _, (hd d h1).2.1, (hd d h1).2.2, .inr ⟨d, rfl, (hd d h1).1⟩⟩
  · have h2 := valid_enF ht h1
    simp only [enOk, Bool.and_eq_true, decide_eq_true_eq] at h2
    have h3 := fileE_some (valid_path ht h1)
    refine ⟨?_, ?_, hsz h2.1, ?_, .inl rfl⟩
    · show false = !sameF (fileE e) (fileE e)
      rw [sameF_self]; rfl
    · rw [outA_none]
      show [e] = if (fileE e).there = true then [⟨e.path, (fileE e).text, (fileE e).runs⟩] else []
      rw [h3]; rfl
    · show (fileE e).text.size ≤ _
      rw [h3]; show e.text.size ≤ _; omega
  · exact ⟨rfl, outA_some _ _ _, (hd d h2).2.1, (hd d h2).2.2, .inr ⟨d, rfl, (hd d h2).1⟩⟩
end Go.Proofs.Ytjlflmbifeocbaa

namespace Go.Proofs.Ytjlflmbifeocbaa
open Go.RowKit

def LayPost6 (ts : List En) (p : ByteArray) (f : Fl) (w : World) (e : Ending) (w' : World) : Prop :=
  ∃ ad cap us, e = .returned (.agg #[.slice ad us.length cap]) ∧ LayRel ts p f us ∧ EL w.heap.size w' ad us ∧ Below w.heap.size w w' ∧ us.length ≤ ts.length + 1

def LayPost6C (ts : List En) (p : ByteArray) (f : Fl) (w : World) (e : Ending) (w' : World) : Prop :=
  ∃ ad cap us, e = .returned (.agg #[.slice ad us.length cap]) ∧ LayRel ts p f us ∧ EL w.heap.size w' ad us ∧ Below w.heap.size w w' ∧ us.length ≤ ts.length + 1 ∧ us.length ≤ cap

set_option maxRecDepth 100000 in
set_option maxHeartbeats 8000000 in
theorem l6LayC_any (a : Option Addr) (cap : Nat) (ts : List En) (p : ByteArray) (f : Fl) (w : World) (hts : ES w a ts) (hn : ts.length ≤ 1000000) (hA : Asc ts) :
    Calls Try.prog 24 #[.agg #[.slice a ts.length cap], .string p, .agg #[.bool f.there, .string f.text, .bool f.runs]] w fun e w' => LayPost6C ts p f w e w' := by
  obtain ⟨i0, hi, hz0, hz1, hz2⟩ := info_parts Try.infoEntry
  have hal : Below w.heap.size w ((((w.alloc (.cells #[.slice a ts.length cap] 25)).alloc (.cells #[.bool f.there, .string f.text, .bool f.runs] 54)).alloc (.cells #[.slice none 0 0] 25)).alloc (.cells #[.slice none 0 0] 25)) := ((((Below.refl _ _).alloc (Nat.le_refl _) _).alloc (by simp) _).alloc (by simp; omega) _).alloc (by simp; omega) _
  have m0 : ((((w.alloc (.cells #[.slice a ts.length cap] 25)).alloc (.cells #[.bool f.there, .string f.text, .bool f.runs] 54)).alloc (.cells #[.slice none 0 0] 25)).alloc (.cells #[.slice none 0 0] 25)).cell? ⟨w.heap.size, 0, none⟩ = some (.slice a ts.length cap) := by simp [go_sem]
  have f0 : ((((w.alloc (.cells #[.slice a ts.length cap] 25)).alloc (.cells #[.bool f.there, .string f.text, .bool f.runs] 54)).alloc (.cells #[.slice none 0 0] 25)).alloc (.cells #[.slice none 0 0] 25)).cell? ⟨w.heap.size + 1, 0, none⟩ = some (.bool f.there) := by simp [go_sem]
  have f1 : ((((w.alloc (.cells #[.slice a ts.length cap] 25)).alloc (.cells #[.bool f.there, .string f.text, .bool f.runs] 54)).alloc (.cells #[.slice none 0 0] 25)).alloc (.cells #[.slice none 0 0] 25)).cell? ⟨w.heap.size + 1, 1, none⟩ = some (.string f.text) := by simp [go_sem]
  have f2 : ((((w.alloc (.cells #[.slice a ts.length cap] 25)).alloc (.cells #[.bool f.there, .string f.text, .bool f.runs] 54)).alloc (.cells #[.slice none 0 0] 25)).alloc (.cells #[.slice none 0 0] 25)).cell? ⟨w.heap.size + 1, 2, none⟩ = some (.bool f.runs) := by simp [go_sem]
  have k0 : ((((w.alloc (.cells #[.slice a ts.length cap] 25)).alloc (.cells #[.bool f.there, .string f.text, .bool f.runs] 54)).alloc (.cells #[.slice none 0 0] 25)).alloc (.cells #[.slice none 0 0] 25)).cell? ⟨w.heap.size + 1 + 1, 0, none⟩ = some (.slice none 0 0) := by simp [go_sem]
  have kf : ((((w.alloc (.cells #[.slice a ts.length cap] 25)).alloc (.cells #[.bool f.there, .string f.text, .bool f.runs] 54)).alloc (.cells #[.slice none 0 0] 25)).alloc (.cells #[.slice none 0 0] 25)).frozen? ⟨w.heap.size + 1 + 1, 0, none⟩ = false := by simp [go_sem]
  have o0 : ((((w.alloc (.cells #[.slice a ts.length cap] 25)).alloc (.cells #[.bool f.there, .string f.text, .bool f.runs] 54)).alloc (.cells #[.slice none 0 0] 25)).alloc (.cells #[.slice none 0 0] 25)).cell? ⟨w.heap.size + 1 + 1 + 1, 0, none⟩ = some (.slice none 0 0) := by simp [go_sem]
  have of0 : ((((w.alloc (.cells #[.slice a ts.length cap] 25)).alloc (.cells #[.bool f.there, .string f.text, .bool f.runs] 54)).alloc (.cells #[.slice none 0 0] 25)).alloc (.cells #[.slice none 0 0] 25)).frozen? ⟨w.heap.size + 1 + 1 + 1, 0, none⟩ = false := by simp [go_sem]
  have os0 : w.heap.size + 1 + 1 + 1 < ((((w.alloc (.cells #[.slice a ts.length cap] 25)).alloc (.cells #[.bool f.there, .string f.text, .bool f.runs] 54)).alloc (.cells #[.slice none 0 0] 25)).alloc (.cells #[.slice none 0 0] 25)).heap.size := by simp [go_sem]
  go_enter Try.func24, Try.ntmps24
  go_wp2
  generalize (((w.alloc (.cells #[.slice a ts.length cap] 25)).alloc (.cells #[.bool f.there, .string f.text, .bool f.runs] 54)).alloc (.cells #[.slice none 0 0] 25)).alloc (.cells #[.slice none 0 0] 25) = W at *
  obtain ⟨ob, hob⟩ : ∃ ob, ob = w.heap.size + 1 + 1 + 1 := ⟨_, rfl⟩
  obtain ⟨g, hg⟩ : ∃ g, g = w.heap.size + 1 + 1 := ⟨_, rfl⟩
  obtain ⟨fb, hfb⟩ : ∃ fb, fb = w.heap.size + 1 := ⟨_, rfl⟩
  obtain ⟨ta, hta⟩ : ∃ ta, ta = w.heap.size := ⟨_, rfl⟩
  rw [← hob] at o0 of0 os0 ⊢
  rw [← hg] at k0 kf ⊢
  rw [← hfb] at f0 f1 f2 ⊢
  rw [← hta] at m0 ⊢
  have HS : Keep (ta = w.heap.size ∧ fb = w.heap.size + 1 ∧ g = w.heap.size + 2 ∧ ob = w.heap.size + 3 ∧ ob < W.heap.size) := ⟨by omega⟩
  have hst0 := OutSt.start o0 of0 os0
  clear hob hg hfb hta o0 of0 os0
  go_loopw [8] (fun i wr => ∃ (k : Nat) (v : Value), i = .int .i64 k ∧ k ≤ ts.length ∧ OutSt ob W v (offP (ts.take k) p) wr) (fun i _ => ts.length - (intOf i).toNat)
  case atStart => exact ⟨0, _, rfl, Nat.zero_le _, hst0⟩
  case round =>
    clear hst0
    obtain ⟨k, v, rfl, hk, hst⟩ := hrel
    have hbr := hst.below hal (by have := HS.out; omega)
    have mr := hst.keep m0 (by have := HS.out; omega) (by have := HS.out; omega)
    by_cases hlt : k < ts.length
    · have hlt' : (k : Int) < ts.length := by omega
      obtain ⟨b, off, rfl, hc⟩ := (hts.below hbr).at hlt
      obtain ⟨x0, x1, x2⟩ := hc k hlt
      have hwt := offP_take (p := p) hlt
      cases hq : (ts[k].path.toList == p.toList) with
      | true =>
        rw [hq] at hwt
        simp only [if_true] at hwt
        have HW : Keep (offP (ts.take (k + 1)) p = offP (ts.take k) p) := ⟨hwt⟩
        have hq2 : (ts[k].path.toList != p.toList) = false := by simpa using hq
        clear hwt hc
        go_wp2
        go_roundw
        case rel => exact ⟨k + 1, v, by congr 1, hlt, by rw [HW.out]; exact hst⟩
        case measure => simp only [intOf]; omega
      | false =>
        rw [hq] at hwt
        simp only [Bool.false_eq_true, if_false] at hwt
        have HW : Keep (offP (ts.take (k + 1)) p = offP (ts.take k) p ++ [ts[k]]) := ⟨hwt⟩
        have hq2 : (ts[k].path.toList != p.toList) = true := by simpa using hq
        have hlen : (offP (ts.take k) p).length ≤ 1048576 := Nat.le_trans offP_len (by simp; omega)
        clear hwt hc
        generalize offP (ts.take k) p = us at *
        have hb1 : Below wr.heap.size wr (wr.alloc (.cells #[.string ts[k].path, .string ts[k].text, .bool ts[k].runs] 57)).drew := ((Below.refl _ _).alloc (Nat.le_refl _) _).drew
        have o1 := hst.cell
        have o1a : ∀ o, (wr.alloc o).cell? ⟨ob, 0, none⟩ = some v := fun o => cell_later ((Below.refl _ _).alloc (Nat.le_refl _) o) o1
        have HST : Keep (OutSt ob W v us wr) := ⟨hst⟩
        have hgs := hst.grown.size
        clear hst hbr
        go_wp2_with fail
        go_region_law (refine step_append_lies _ rfl _ _ 23 rfl W.heap.size 57 i0 _ 3 40 Try.underlying23 hi hz0 hz1 hz2 rfl (by decide) v us.length (ecells us) rfl (by exact owns_below HST.out.row hb1) ⟨wr.heap.size, 0, none⟩ 1 1 (ecell ts[k]) rfl rfl (by exact news_3 _ _ _ _ (by simp)) (by exact one_3 _) (by omega) (by unfold maxLen; omega) (by omega) (by simp; omega) (wr.heap.size + 1) (by simp) ?_; intro g2 cap2 w2 hown2 hgrow2 hat2 hlt2; have hm3 := HST.out.mid hb1 hgrow2; have oc3 := hm3.1; have of3 := hm3.2)
        all_goals
          have hst3 := HST.out.append hb1 hgrow2 hown2
          clear hm3 oc3 of3 hgrow2 hown2 hat2 hlt2 o1 o1a x0 x1 x2 mr HST
          go_wp2
          go_roundw
          case rel => exact ⟨k + 1, _, by congr 1, hlt, by rw [HW.out]; exact hst3⟩
          case measure => simp only [intOf]; omega
    · obtain rfl : k = ts.length := by omega
      rw [List.take_length] at hst
      have k2 := hst.keep k0 (by have := HS.out; omega) (by have := HS.out; omega)
      have g0 := hst.keep f0 (by have := HS.out; omega) (by have := HS.out; omega)
      have g1 := hst.keep f1 (by have := HS.out; omega) (by have := HS.out; omega)
      have g2 := hst.keep f2 (by have := HS.out; omega) (by have := HS.out; omega)
      have kf2 : wr.frozen? ⟨g, 0, none⟩ = false := frozen_of (hst.grown.block g (by have := HS.out; omega) (fun e => by have := HS.out; cases e; omega)) kf
      obtain ⟨ad, cap2, rfl⟩ := owns_slice hst.row
      have o2 := hst.cell
      have of2 := hst.fz
      have hel := el_of_row hst.row
      have hgo : ¬ g = ob := by have := HS.out; omega
      have hog : ¬ ob = g := by have := HS.out; omega
      cases ht : f.there with
      | false =>
        rw [ht] at g0
        have HB : Keep (LayPost6C ts p f w (.returned (.agg #[.slice ad (offP ts p).length cap2])) (wr.setCell ⟨g, 0, none⟩ (.slice ad (offP ts p).length cap2))) := ⟨⟨ad, cap2, offP ts p, rfl, by unfold LayRel; rw [if_neg (by rw [ht]; simp)], (hel.grown (row := some g) (grown_set0 wr g 0 _) (fun j _ hj _ e => by have := HS.out; cases e; omega)).mono (show w.heap.size ≤ W.heap.size by have := HS.out; omega), hbr.setCell (p := ⟨g, 0, none⟩) (by have := HS.out; show _ ≤ g; omega) _, Nat.le_trans offP_len (by omega), row_room hst.row⟩⟩
        clear hel hst hbr
        generalize offP ts p = us at *
        go_wp2
        refine bodyPost_ret (v := .agg #[.slice ad us.length cap2]) ?_ rfl HB.out
        go_light
        simp [results, Try.results24, go_sem, k2]
      | true =>
        rw [ht] at g0
        have hset := l5SetC_any ad cap2 (offP ts p) ⟨p, f.text, f.runs⟩ wr hel.es (Nat.le_trans offP_len (by omega)) (offP_asc hA)
        have hol : (offP ts p).length ≤ ts.length := offP_len
        have HST : Keep (OutSt ob W (.slice ad (offP ts p).length cap2) (offP ts p) wr) := ⟨hst⟩
        clear hel hst
        go_wp2_with fail
        refine hset.mono ?_
        rintro e w3 ⟨ad3, cap3, us, rfl, hrel, hel3, hb3, hus, hrm3⟩
        replace k2 := cell_later hb3 k2
        replace o2 := cell_later hb3 o2
        replace kf2 : w3.frozen? ⟨g, 0, none⟩ = false := (hb3.frozen (p := ⟨g, 0, none⟩) (World.block_lt_of_cell? wr ⟨g, 0, none⟩ (HST.out.keep k0 (by have := HS.out; omega) (by have := HS.out; omega)))).trans kf2
        replace of2 : w3.frozen? ⟨ob, 0, none⟩ = false := (hb3.frozen (p := ⟨ob, 0, none⟩) HST.out.size).trans of2
        have hgw := HST.out.grown.size
        have h31 := hel3.grown (row := some ob) (grown_set0 w3 ob 0 (.slice ad3 us.length cap3)) (fun j _ hj _ e => by have := HS.out; cases e; omega)
        have h32 := h31.grown (row := some g) (grown_set0 _ g 0 (.slice ad3 us.length cap3)) (fun j _ hj _ e => by have := HS.out; cases e; omega)
        have hb4 := ((hbr.trans (hb3.mono hbr.size)).setCell (p := ⟨ob, 0, none⟩) (by have := HS.out; show _ ≤ ob; omega) (.slice ad3 us.length cap3)).setCell (p := ⟨g, 0, none⟩) (by have := HS.out; show _ ≤ g; omega) (.slice ad3 us.length cap3)
        have HB : Keep (LayPost6C ts p f w (.returned (.agg #[.slice ad3 us.length cap3])) ((w3.setCell ⟨ob, 0, none⟩ (.slice ad3 us.length cap3)).setCell ⟨g, 0, none⟩ (.slice ad3 us.length cap3))) := ⟨⟨ad3, cap3, us, rfl, by unfold LayRel; rw [if_pos ht]; exact hrel, h32.mono (show w.heap.size ≤ wr.heap.size by have := HS.out; omega), hb4, by omega, hrm3⟩⟩
        clear hel3 h31 h32 hb4 hb3 hset hbr HST
        go_wp2
        refine bodyPost_ret (v := .agg #[.slice ad3 us.length cap3]) ?_ rfl HB.out
        go_light
        simp [results, Try.results24, go_sem, k2]
theorem l6Lay_any (a : Option Addr) (cap : Nat) (ts : List En) (p : ByteArray) (f : Fl) (w : World) (hts : ES w a ts) (hn : ts.length ≤ 1000000) (hA : Asc ts) :
    Calls Try.prog 24 #[.agg #[.slice a ts.length cap], .string p, .agg #[.bool f.there, .string f.text, .bool f.runs]] w fun e w' => LayPost6 ts p f w e w' :=
  (l6LayC_any a cap ts p f w hts hn hA).mono (fun _ _ ⟨ad, cp, us, h1, h2, h3, h4, h5, _⟩ => ⟨ad, cp, us, h1, h2, h3, h4, h5⟩)
end Go.Proofs.Ytjlflmbifeocbaa

namespace Go.Proofs.Ytjlflmbifeocbaa
open Go.RowKit

def yTab (P C K : Value) (tb b1 o : Nat) (s : ByteArray) (f : Fl) : Nat → Option Value
  | 0 => some P
  | 1 => some (.pointer (some ⟨tb, 0, none⟩))
  | 2 => some C
  | 3 => some K
  | 4 => some (.pointer (some ⟨b1, o, none⟩))
  | 5 => some (.pointer (some ⟨b1, o, none⟩))
  | 6 => some (.string s)
  | 7 => some (.pointer (some ⟨tb, 0, none⟩))
  | 8 => some C
  | 9 => some K
  | 10 => some (.pointer (some ⟨b1, o, none⟩))
  | 11 => some (.pointer (some ⟨b1, o + 4, none⟩))
  | 12 => some (.agg #[.bool f.there, .string f.text, .bool f.runs])
  | _ => none
def yDs : List Nat := [50, 51, 52, 53, 54, 55, 56, 57, 58, 59, 60, 61, 62, 63, 1000]
theorem yNd : yDs.Nodup := by decide

structure YV (T0 : Array Value) (X : World) (P C K : Value) (tb b1 o : Nat) (us : List En) (s : ByteArray) (f : Fl) (E : World → Prop) (L : Array Bool) (a : Act) (w : World) : Prop where
  sl : Sl2 T0 yDs (yTab P C K tb b1 o s f) L a
  w0 : L.getD 13 false = false → w = X.drew
  w1 : L.getD 13 false = true → L.getD 14 false = false → ∃ ad cap vs, a.eval (.tmp 63) = .agg #[.slice ad vs.length cap] ∧ LayRel us s f vs ∧ EL X.heap.size w ad vs ∧ Below X.heap.size X w ∧ vs.length ≤ us.length + 1
  w3 : L.getD 14 false = true → E w

theorem YV.step {T0 : Array Value} {X : World} {P C K : Value} {tb b1 o : Nat} {us : List En} {s : ByteArray} {f : Fl} {E : World → Prop} {L : Array Bool} {a : Act} {w : World} (h : YV T0 X P C K tb b1 o us s f E L a w) {i : Nat} {u : Value} (hT : T0.size = 69) (hi : i < 13) (ht : yTab P C K tb b1 o s f i = some u) :
    YV T0 X P C K tb b1 o us s f E (L.setIfInBounds i true) (a.put (some (50 + i)) u) w := by
  have hlen : i < yDs.length := by show i < 15; omega
  have hds : yDs[i] = 50 + i := by
    match i, hi with
    | 0, _ | 1, _ | 2, _ | 3, _ | 4, _ | 5, _ | 6, _ | 7, _ | 8, _ | 9, _ | 10, _ | 11, _ | 12, _ => rfl
  have hsl := h.sl.put yNd hlen (by rw [hds, hT]; omega) (v := u) (fun u' hu => by rw [ht] at hu; cases hu; rfl)
  rw [hds] at hsl
  have ev : ∀ k, k ≠ 50 + i → (a.put (some (50 + i)) u).eval (.tmp k) = a.eval (.tmp k) := fun k hk => Act.eval_put (fun d hd' => by cases hd'; intro e'; injection e' with e'; exact hk e')
  refine ⟨hsl, fun h1 => ?_, fun h1 h2 => ?_, fun h1 => ?_⟩
  · rw [getD_set_ne false (by omega)] at h1; exact h.w0 h1
  · rw [getD_set_ne false (by omega)] at h1; rw [getD_set_ne false (by omega)] at h2
    obtain ⟨ad, cap, vs, e1, e2⟩ := h.w1 h1 h2
    exact ⟨ad, cap, vs, by rw [ev 63 (by omega)]; exact e1, e2⟩
  · rw [getD_set_ne false (by omega)] at h1; exact h.w3 h1
theorem YV.call {T0 : Array Value} {X : World} {P C K : Value} {tb b1 o : Nat} {us : List En} {s : ByteArray} {f : Fl} {E : World → Prop} {L : Array Bool} {a : Act} {w w' : World} (h : YV T0 X P C K tb b1 o us s f E L a w) (hT : T0.size = 69) (hL : L.getD 13 true = false) (h14 : L.getD 14 false = false) {ad : Option Addr} {cap : Nat} {vs : List En}
    (e2 : LayRel us s f vs) (e3 : EL X.heap.size w' ad vs) (e4 : Below X.heap.size X w') (e5 : vs.length ≤ us.length + 1) :
    YV T0 X P C K tb b1 o us s f E (L.setIfInBounds 13 true) (a.put (some 63) (.agg #[.slice ad vs.length cap])) w' := by
  have g13 : (L.setIfInBounds 13 true).getD 13 false = true := by
    have h1 := getD_false hL
    have h2 : 13 < L.size := by simpa using (List.getElem?_eq_some_iff.1 h1).1
    rw [Array.getD_eq_getD_getElem?, Array.getElem?_setIfInBounds_self_of_lt h2]
    rfl
  refine ⟨h.sl.put (i := 13) yNd (by decide) (show 63 < _ by rw [hT]; omega) (fun u hu => by cases hu), fun h1 => ?_, fun _ _ => ⟨ad, cap, vs, ?_, e2, e3, e4, e5⟩, fun h1 => ?_⟩
  · rw [g13] at h1; cases h1
  · show ((a.tmps.setIfInBounds 63 _).getD 63 undef) = _
    rw [Array.getD_eq_getD_getElem?, Array.getElem?_setIfInBounds_self_of_lt (by rw [h.sl.sz, hT]; omega)]
    rfl
  · rw [getD_set_ne false (by omega), h14] at h1; cases h1
theorem YV.last {T0 : Array Value} {X : World} {P C K : Value} {tb b1 o : Nat} {us : List En} {s : ByteArray} {f : Fl} {E : World → Prop} {L : Array Bool} {a : Act} {w w' : World} (h : YV T0 X P C K tb b1 o us s f E L a w) (h13 : L.getD 13 false = true) (hL : L.getD 14 true = false) (hE : E w') :
    YV T0 X P C K tb b1 o us s f E (L.setIfInBounds 14 true) a w' := by
  have g14 : (L.setIfInBounds 14 true).getD 14 false = true := by
    have h1 := getD_false hL
    have h2 : 14 < L.size := by simpa using (List.getElem?_eq_some_iff.1 h1).1
    rw [Array.getD_eq_getD_getElem?, Array.getElem?_setIfInBounds_self_of_lt h2]
    rfl
  refine ⟨h.sl.skip rfl, fun h1 => ?_, fun _ h2 => ?_, fun _ => hE⟩
  · rw [getD_set_ne false (by omega), h13] at h1; cases h1
  · rw [g14] at h2; cases h2
end Go.Proofs.Ytjlflmbifeocbaa

namespace Go.Proofs.Ytjlflmbifeocbaa
open Go.RowKit

/-- What stands in front of a change is less, or there is nothing. -/
def prevOk (cs : List Ch) (k : Nat) : Prop := ∀ j, j + 1 = k → ∀ (hj : j < cs.length) (hk : k < cs.length), Op.bytesLess cs[j].path.toList cs[k].path.toList = true

theorem same_iff (f g : Fl) : sameF f g = true ↔ f.there = g.there ∧ f.text.toList = g.text.toList ∧ f.runs = g.runs := by
  simp [sameF, and_assoc]

set_option maxRecDepth 100000 in
set_option maxHeartbeats 4000000 in
theorem specPatch_any (a : Option Addr) (cap : Nat) (cs : List Ch) (w : World) (hcs : CS w a cs) (hn : cs.length ≤ 1048576) :
    Calls Try.prog 46 #[.agg #[.slice a cs.length cap]] w fun e w' => VpPost cs w e w' := by
  have hal : Below w.heap.size w (w.alloc (.cells #[.slice a cs.length cap] 30)) := (Below.refl _ _).alloc (Nat.le_refl _) _
  have m0 : (w.alloc (.cells #[.slice a cs.length cap] 30)).cell? ⟨w.heap.size, 0, none⟩ = some (.slice a cs.length cap) := by simp
  by_cases h200 : (200 : Int) < cs.length
  · go_enter Try.func46, Try.ntmps46
    go_wp2
    go_ret
    exact VpPost.no (fun h => by have := h.1; omega) hal
  go_enter Try.func46, Try.ntmps46
  go_wp2
  generalize w.alloc (.cells #[.slice a cs.length cap] 30) = w0 at *
  go_loopw [3] (fun i wr => ∃ k : Nat, i = .int .i64 k ∧ k ≤ cs.length ∧ Keep (∀ j, j < k → POk cs j) ∧ Below w0.heap.size w0 wr) (fun i _ => cs.length - (intOf i).toNat)
  case atStart => exact ⟨0, rfl, Nat.zero_le _, ⟨fun j hj => by omega⟩, Below.refl _ _⟩
  case round =>
    obtain ⟨k, rfl, hk, hok, hb0⟩ := hrel
    have hb := hal.trans (hb0.mono hal.size)
    have mr := cell_later hb0 m0
    by_cases hlt : k < cs.length
    · have hlt' : (k : Int) < cs.length := by omega
      obtain ⟨b, off, rfl, hc⟩ := (hcs.below hb).at hlt
      obtain ⟨c0, c1, c2, c3, c4, c5, c6⟩ := hc k hlt
      have HPREV : Keep (∀ j (hj : j < cs.length), wr.cell? ⟨b, off + j * 7, none⟩ = some (.string cs[j].path)) := ⟨fun j hj => (hc j hj).1⟩
      clear hc
      have hals : Below wr.heap.size wr (wr.alloc (.cells #[.string cs[k].path, .bool cs[k].old.there, .string cs[k].old.text, .bool cs[k].old.runs, .bool cs[k].new.there, .string cs[k].new.text, .bool cs[k].new.runs] 68)) := (Below.refl _ _).alloc (Nat.le_refl _) _
      have hx : ChAt (wr.alloc (.cells #[.string cs[k].path, .bool cs[k].old.there, .string cs[k].old.text, .bool cs[k].old.runs, .bool cs[k].new.there, .string cs[k].new.text, .bool cs[k].new.runs] 68)) wr.heap.size 0 cs[k] := by simp [ChAt]
      have m2 := cell_later hals mr
      have hbx := hb0.trans (hals.mono hb0.size)
      have HP2 : Keep (∀ j (hj : j < cs.length), (wr.alloc (.cells #[.string cs[k].path, .bool cs[k].old.there, .string cs[k].old.text, .bool cs[k].old.runs, .bool cs[k].new.there, .string cs[k].new.text, .bool cs[k].new.runs] 68)).cell? ⟨b, off + j * 7, none⟩ = some (.string cs[j].path)) := ⟨fun j hj => cell_later hals (HPREV.out j hj)⟩
      go_upto_region 7 with fail
      go_cut [59] (fun v wx => ∃ bl : Bool, v = .bool bl ∧ (bl = false ↔ POk cs k) ∧ Below w0.heap.size w0 wx)
      case first =>
        generalize wr.alloc (.cells #[.string cs[k].path, .bool cs[k].old.there, .string cs[k].old.text, .bool cs[k].old.runs, .bool cs[k].new.there, .string cs[k].new.text, .bool cs[k].new.runs] 68) = w2 at *
        obtain ⟨xp, hxp⟩ : ∃ xp, cs[k].path = xp := ⟨_, rfl⟩
        obtain ⟨ot, hot⟩ : ∃ x, cs[k].old.there = x := ⟨_, rfl⟩
        obtain ⟨ox, hox⟩ : ∃ x, cs[k].old.text = x := ⟨_, rfl⟩
        obtain ⟨orr, hor⟩ : ∃ x, cs[k].old.runs = x := ⟨_, rfl⟩
        obtain ⟨nt, hnt⟩ : ∃ x, cs[k].new.there = x := ⟨_, rfl⟩
        obtain ⟨nx, hnx⟩ : ∃ x, cs[k].new.text = x := ⟨_, rfl⟩
        obtain ⟨nr, hnr⟩ : ∃ x, cs[k].new.runs = x := ⟨_, rfl⟩
        obtain ⟨y0, y1, y2, y3, y4, y5, y6⟩ := hx
        simp only [Nat.zero_add] at y0 y1 y2 y3 y4 y5 y6
        rw [hxp] at y0
        rw [hot] at y1
        rw [hox] at y2
        rw [hor] at y3
        rw [hnt] at y4
        rw [hnx] at y5
        rw [hnr] at y6
        have z0 : ∀ x : Later w2, x.world.cell? ⟨wr.heap.size, 0, none⟩ = some (.string xp) := fun x => cell_later x.kept y0
        have z1 : ∀ x : Later w2, x.world.cell? ⟨wr.heap.size, 1, none⟩ = some (.bool ot) := fun x => cell_later x.kept y1
        have z2 : ∀ x : Later w2, x.world.cell? ⟨wr.heap.size, 2, none⟩ = some (.string ox) := fun x => cell_later x.kept y2
        have z3 : ∀ x : Later w2, x.world.cell? ⟨wr.heap.size, 3, none⟩ = some (.bool orr) := fun x => cell_later x.kept y3
        have z4 : ∀ x : Later w2, x.world.cell? ⟨wr.heap.size, 4, none⟩ = some (.bool nt) := fun x => cell_later x.kept y4
        have z5 : ∀ x : Later w2, x.world.cell? ⟨wr.heap.size, 5, none⟩ = some (.string nx) := fun x => cell_later x.kept y5
        have z6 : ∀ x : Later w2, x.world.cell? ⟨wr.heap.size, 6, none⟩ = some (.bool nr) := fun x => cell_later x.kept y6
        have zT : ∀ x : Later w2, x.world.cell? ⟨w.heap.size, 0, none⟩ = some (.slice (some ⟨b, off, none⟩) cs.length cap) := fun x => cell_later x.kept m2
        have HBX : Keep (Below w0.heap.size w0 w2) := ⟨hbx⟩
        have HCH : Keep (chOk cs[k] = (pathOk pathB xp && flOk ⟨ot, ox, orr⟩ && flOk ⟨nt, nx, nr⟩ && !sameF ⟨ot, ox, orr⟩ ⟨nt, nx, nr⟩)) := ⟨by rw [← hxp, ← hot, ← hox, ← hor, ← hnt, ← hnx, ← hnr]; rfl⟩
        have HXP : Keep (cs[k].path = xp) := ⟨hxp⟩
        have HC1 : ∀ x : Later w2, Calls Try.prog 36 #[.string xp] x.world fun e w'' => e = .returned (.bool (pathOk pathB xp)) ∧ ∃ y : Later w2, w'' = y.world := fun x => Later.call x (specPath_any _ _)
        have HC2 : ∀ x : Later w2, Calls Try.prog 67 #[.agg #[.bool ot, .string ox, .bool orr]] x.world fun e w'' => e = .returned (.bool (flOk ⟨ot, ox, orr⟩)) ∧ ∃ y : Later w2, w'' = y.world := fun x => Later.call x (l6FileOk_any ⟨ot, ox, orr⟩ _)
        have HC3 : ∀ x : Later w2, Calls Try.prog 67 #[.agg #[.bool nt, .string nx, .bool nr]] x.world fun e w'' => e = .returned (.bool (flOk ⟨nt, nx, nr⟩)) ∧ ∃ y : Later w2, w'' = y.world := fun x => Later.call x (l6FileOk_any ⟨nt, nx, nr⟩ _)
        clear hxp hot hox hor hnt hnx hnr y0 y1 y2 y3 y4 y5 y6 c0 c1 c2 c3 c4 c5 c6 m2 m0 mr hbx hals hal hb hb0 hcs
        cases hp : pathOk pathB xp with
        | false =>
          have HNO : Keep (¬ POk cs k) := ⟨fun ⟨_, h, _⟩ => by rw [HCH.out, hp] at h; simp at h⟩
          rw [hp] at HC1
          replace HC1 := Keep.mk HC1
          replace HC2 := Keep.mk HC2
          replace HC3 := Keep.mk HC3
          (haveI := later_any; refine wp_region_later (by kernel_rfl) (by kernel_rfl) ?_; (repeat (go_big_quiet_step (first | (go_at_call 36; exact HC1.out _) | (go_at_call_of 67 ([Value.agg #[Value.bool ot, Value.string ox, Value.bool orr]] : List Value); exact HC2.out _) | (go_at_call_of 67 ([Value.agg #[Value.bool nt, Value.string nx, Value.bool nr]] : List Value); exact HC3.out _)))); refine wpQuiet_nil ?_; intro _ hwq; obtain ⟨xq, hwq2⟩ := hwq; subst hwq2)
          go_wp2_with fail
          go_meet
          case rel => exact ⟨true, rfl, ⟨fun h => (by cases h), fun h => absurd h HNO.out⟩, HBX.out.trans (xq.kept.mono HBX.out.size)⟩
        | true =>
          rw [hp] at HC1
          replace HC1 := Keep.mk HC1
          cases ho : flOk ⟨ot, ox, orr⟩ with
          | false =>
            have HNO : Keep (¬ POk cs k) := ⟨fun ⟨_, h, _⟩ => by rw [HCH.out, hp, ho] at h; simp at h⟩
            rw [ho] at HC2
            replace HC2 := Keep.mk HC2
            replace HC3 := Keep.mk HC3
            (haveI := later_any; refine wp_region_later (by kernel_rfl) (by kernel_rfl) ?_; (repeat (go_big_quiet_step (first | (go_at_call 36; exact HC1.out _) | (go_at_call_of 67 ([Value.agg #[Value.bool ot, Value.string ox, Value.bool orr]] : List Value); exact HC2.out _) | (go_at_call_of 67 ([Value.agg #[Value.bool nt, Value.string nx, Value.bool nr]] : List Value); exact HC3.out _)))); refine wpQuiet_nil ?_; intro _ hwq; obtain ⟨xq, hwq2⟩ := hwq; subst hwq2)
            go_wp2_with fail
            go_meet
            case rel => exact ⟨true, rfl, ⟨fun h => (by cases h), fun h => absurd h HNO.out⟩, HBX.out.trans (xq.kept.mono HBX.out.size)⟩
          | true =>
            rw [ho] at HC2
            replace HC2 := Keep.mk HC2
            cases hw : flOk ⟨nt, nx, nr⟩ with
            | false =>
              have HNO : Keep (¬ POk cs k) := ⟨fun ⟨_, h, _⟩ => by rw [HCH.out, hp, ho, hw] at h; simp at h⟩
              rw [hw] at HC3
              replace HC3 := Keep.mk HC3
              (haveI := later_any; refine wp_region_later (by kernel_rfl) (by kernel_rfl) ?_; (repeat (go_big_quiet_step (first | (go_at_call 36; exact HC1.out _) | (go_at_call_of 67 ([Value.agg #[Value.bool ot, Value.string ox, Value.bool orr]] : List Value); exact HC2.out _) | (go_at_call_of 67 ([Value.agg #[Value.bool nt, Value.string nx, Value.bool nr]] : List Value); exact HC3.out _)))); refine wpQuiet_nil ?_; intro _ hwq; obtain ⟨xq, hwq2⟩ := hwq; subst hwq2)
              go_wp2_with fail
              go_meet
              case rel => exact ⟨true, rfl, ⟨fun h => (by cases h), fun h => absurd h HNO.out⟩, HBX.out.trans (xq.kept.mono HBX.out.size)⟩
            | true =>
              rw [hw] at HC3
              replace HC3 := Keep.mk HC3
              cases hsm : sameF ⟨ot, ox, orr⟩ ⟨nt, nx, nr⟩ with
              | true =>
                have HNO : Keep (¬ POk cs k) := ⟨fun ⟨_, h, _⟩ => by rw [HCH.out, hsm] at h; simp at h⟩
                obtain ⟨h1, h2, h3⟩ := (same_iff _ _).1 hsm
                simp only at h1 h2 h3
                clear hsm
                have h2' : ox = nx := by rw [Lib.toList_data, Lib.toList_data] at h2; exact WideShapes.bytes_inj h2
                clear h2
                subst h1 h2' h3
                (haveI := later_any; refine wp_region_later (by kernel_rfl) (by kernel_rfl) ?_; (repeat (go_big_quiet_step (first | (go_at_call 36; exact HC1.out _) | (go_at_call_of 67 ([Value.agg #[Value.bool ot, Value.string ox, Value.bool orr]] : List Value); exact HC2.out _) | (go_at_call_of 67 ([Value.agg #[Value.bool nt, Value.string nx, Value.bool nr]] : List Value); exact HC3.out _)))); refine wpQuiet_nil ?_; intro _ hwq; obtain ⟨xq, hwq2⟩ := hwq; subst hwq2)
                go_wp2_with fail
                go_meet
                case rel => exact ⟨true, rfl, ⟨fun h => (by cases h), fun h => absurd h HNO.out⟩, HBX.out.trans (xq.kept.mono HBX.out.size)⟩
              | false =>
                have HOK : Keep (chOk cs[k] = true) := ⟨by rw [HCH.out, hp, ho, hw, hsm]; rfl⟩
                have hne : ¬ (ot = nt ∧ ox.toList = nx.toList ∧ orr = nr) := fun h => by
                  have := (same_iff ⟨ot, ox, orr⟩ ⟨nt, nx, nr⟩).2 h
                  rw [hsm] at this
                  cases this
                clear hsm HCH
                by_cases hk0 : k = 0
                · have hkd : decide (0 < k) = false := by simp [hk0]
                  have HYES : Keep (POk cs k) := ⟨⟨hlt, HOK.out, fun j hj => by omega⟩⟩
                  clear hk0
                  by_cases h1 : ot = nt
                  · by_cases h2 : ox.toList = nx.toList
                    · have h3 : ¬ orr = nr := fun h => hne ⟨h1, h2, h⟩
                      have h2' : ox = nx := by rw [Lib.toList_data, Lib.toList_data] at h2; exact WideShapes.bytes_inj h2
                      clear hne h2
                      subst h1 h2'
                      (haveI := later_any; refine wp_region_later (by kernel_rfl) (by kernel_rfl) ?_; (repeat (go_big_quiet_step (first | (go_at_call 36; exact HC1.out _) | (go_at_call_of 67 ([Value.agg #[Value.bool ot, Value.string ox, Value.bool orr]] : List Value); exact HC2.out _) | (go_at_call_of 67 ([Value.agg #[Value.bool ot, Value.string ox, Value.bool nr]] : List Value); exact HC3.out _)))); refine wpQuiet_nil ?_; intro _ hwq; obtain ⟨xq, hwq2⟩ := hwq; subst hwq2)
                      go_wp2_with fail
                      go_meet
                      case rel => exact ⟨false, rfl, ⟨fun _ => HYES.out, fun _ => rfl⟩, HBX.out.trans (xq.kept.mono HBX.out.size)⟩
                    · clear hne
                      subst h1
                      (haveI := later_any; refine wp_region_later (by kernel_rfl) (by kernel_rfl) ?_; (repeat (go_big_quiet_step (first | (go_at_call 36; exact HC1.out _) | (go_at_call_of 67 ([Value.agg #[Value.bool ot, Value.string ox, Value.bool orr]] : List Value); exact HC2.out _) | (go_at_call_of 67 ([Value.agg #[Value.bool ot, Value.string nx, Value.bool nr]] : List Value); exact HC3.out _)))); refine wpQuiet_nil ?_; intro _ hwq; obtain ⟨xq, hwq2⟩ := hwq; subst hwq2)
                      go_wp2_with fail
                      go_meet
                      case rel => exact ⟨false, rfl, ⟨fun _ => HYES.out, fun _ => rfl⟩, HBX.out.trans (xq.kept.mono HBX.out.size)⟩
                  · clear hne
                    (haveI := later_any; refine wp_region_later (by kernel_rfl) (by kernel_rfl) ?_; (repeat (go_big_quiet_step (first | (go_at_call 36; exact HC1.out _) | (go_at_call_of 67 ([Value.agg #[Value.bool ot, Value.string ox, Value.bool orr]] : List Value); exact HC2.out _) | (go_at_call_of 67 ([Value.agg #[Value.bool nt, Value.string nx, Value.bool nr]] : List Value); exact HC3.out _)))); refine wpQuiet_nil ?_; intro _ hwq; obtain ⟨xq, hwq2⟩ := hwq; subst hwq2)
                    go_wp2_with fail
                    go_meet
                    case rel => exact ⟨false, rfl, ⟨fun _ => HYES.out, fun _ => rfl⟩, HBX.out.trans (xq.kept.mono HBX.out.size)⟩
                · obtain ⟨j, rfl⟩ : ∃ j, k = j + 1 := ⟨k - 1, by omega⟩
                  have hpv : ∀ x : Later w2, x.world.cell? ⟨b, off + j * 7, none⟩ = some (.string cs[j].path) := fun x => cell_later x.kept (HP2.out j (by omega))
                  have hk0' : (0 : Int) < ((j + 1 : Nat) : Int) := by omega
                  have hkd : decide (0 < j + 1) = true := by simp
                  have htot := less_total cs[j].path.toList xp.toList
                  have HIFF : Keep (POk cs (j + 1) ↔ Op.bytesLess cs[j].path.toList xp.toList = true) := ⟨by
                    rw [← HXP.out]
                    constructor
                    · rintro ⟨_, _, h⟩; exact h j rfl (by omega)
                    · intro h
                      refine ⟨hlt, HOK.out, fun i hi hil => ?_⟩
                      obtain rfl : i = j := by omega
                      exact h⟩
                  obtain ⟨pp, hpp⟩ : ∃ pp, cs[j].path = pp := ⟨_, rfl⟩
                  rw [hpp] at hpv htot
                  replace HIFF : Keep (POk cs (j + 1) ↔ Op.bytesLess pp.toList xp.toList = true) := ⟨by rw [← hpp]; exact HIFF.out⟩
                  clear hpp HXP HP2 HPREV HOK hok
                  cases hl : Op.bytesLess pp.toList xp.toList with
                  | true =>
                    have hll : (Op.bytesLess xp.toList pp.toList || xp.toList == pp.toList) = false := by rw [← htot, hl]; rfl
                    have HYES : Keep (POk cs (j + 1)) := ⟨HIFF.out.2 hl⟩
                    clear htot HIFF
                    by_cases h1 : ot = nt
                    · by_cases h2 : ox.toList = nx.toList
                      · have h3 : ¬ orr = nr := fun h => hne ⟨h1, h2, h⟩
                        have h2' : ox = nx := by rw [Lib.toList_data, Lib.toList_data] at h2; exact WideShapes.bytes_inj h2
                        clear hne h2
                        subst h1 h2'
                        (haveI := later_any; refine wp_region_later (by kernel_rfl) (by kernel_rfl) ?_; (repeat (go_big_quiet_step (first | (go_at_call 36; exact HC1.out _) | (go_at_call_of 67 ([Value.agg #[Value.bool ot, Value.string ox, Value.bool orr]] : List Value); exact HC2.out _) | (go_at_call_of 67 ([Value.agg #[Value.bool ot, Value.string ox, Value.bool nr]] : List Value); exact HC3.out _)))); refine wpQuiet_nil ?_; intro _ hwq; obtain ⟨xq, hwq2⟩ := hwq; subst hwq2)
                        go_wp2_with fail
                        go_meet
                        case rel => exact ⟨false, rfl, ⟨fun _ => HYES.out, fun _ => rfl⟩, HBX.out.trans (xq.kept.mono HBX.out.size)⟩
                      · clear hne
                        subst h1
                        (haveI := later_any; refine wp_region_later (by kernel_rfl) (by kernel_rfl) ?_; (repeat (go_big_quiet_step (first | (go_at_call 36; exact HC1.out _) | (go_at_call_of 67 ([Value.agg #[Value.bool ot, Value.string ox, Value.bool orr]] : List Value); exact HC2.out _) | (go_at_call_of 67 ([Value.agg #[Value.bool ot, Value.string nx, Value.bool nr]] : List Value); exact HC3.out _)))); refine wpQuiet_nil ?_; intro _ hwq; obtain ⟨xq, hwq2⟩ := hwq; subst hwq2)
                        go_wp2_with fail
                        go_meet
                        case rel => exact ⟨false, rfl, ⟨fun _ => HYES.out, fun _ => rfl⟩, HBX.out.trans (xq.kept.mono HBX.out.size)⟩
                    · clear hne
                      (haveI := later_any; refine wp_region_later (by kernel_rfl) (by kernel_rfl) ?_; (repeat (go_big_quiet_step (first | (go_at_call 36; exact HC1.out _) | (go_at_call_of 67 ([Value.agg #[Value.bool ot, Value.string ox, Value.bool orr]] : List Value); exact HC2.out _) | (go_at_call_of 67 ([Value.agg #[Value.bool nt, Value.string nx, Value.bool nr]] : List Value); exact HC3.out _)))); refine wpQuiet_nil ?_; intro _ hwq; obtain ⟨xq, hwq2⟩ := hwq; subst hwq2)
                      go_wp2_with fail
                      go_meet
                      case rel => exact ⟨false, rfl, ⟨fun _ => HYES.out, fun _ => rfl⟩, HBX.out.trans (xq.kept.mono HBX.out.size)⟩
                  | false =>
                    have hll : (Op.bytesLess xp.toList pp.toList || xp.toList == pp.toList) = true := by rw [← htot, hl]; rfl
                    have HNO : Keep (¬ POk cs (j + 1)) := ⟨fun h => by have := HIFF.out.1 h; rw [hl] at this; cases this⟩
                    clear htot HIFF
                    by_cases h1 : ot = nt
                    · by_cases h2 : ox.toList = nx.toList
                      · have h3 : ¬ orr = nr := fun h => hne ⟨h1, h2, h⟩
                        have h2' : ox = nx := by rw [Lib.toList_data, Lib.toList_data] at h2; exact WideShapes.bytes_inj h2
                        clear hne h2
                        subst h1 h2'
                        (haveI := later_any; refine wp_region_later (by kernel_rfl) (by kernel_rfl) ?_; (repeat (go_big_quiet_step (first | (go_at_call 36; exact HC1.out _) | (go_at_call_of 67 ([Value.agg #[Value.bool ot, Value.string ox, Value.bool orr]] : List Value); exact HC2.out _) | (go_at_call_of 67 ([Value.agg #[Value.bool ot, Value.string ox, Value.bool nr]] : List Value); exact HC3.out _)))); refine wpQuiet_nil ?_; intro _ hwq; obtain ⟨xq, hwq2⟩ := hwq; subst hwq2)
                        go_wp2_with fail
                        go_meet
                        case rel => exact ⟨true, rfl, ⟨fun h => (by cases h), fun h => absurd h HNO.out⟩, HBX.out.trans (xq.kept.mono HBX.out.size)⟩
                      · clear hne
                        subst h1
                        (haveI := later_any; refine wp_region_later (by kernel_rfl) (by kernel_rfl) ?_; (repeat (go_big_quiet_step (first | (go_at_call 36; exact HC1.out _) | (go_at_call_of 67 ([Value.agg #[Value.bool ot, Value.string ox, Value.bool orr]] : List Value); exact HC2.out _) | (go_at_call_of 67 ([Value.agg #[Value.bool ot, Value.string nx, Value.bool nr]] : List Value); exact HC3.out _)))); refine wpQuiet_nil ?_; intro _ hwq; obtain ⟨xq, hwq2⟩ := hwq; subst hwq2)
                        go_wp2_with fail
                        go_meet
                        case rel => exact ⟨true, rfl, ⟨fun h => (by cases h), fun h => absurd h HNO.out⟩, HBX.out.trans (xq.kept.mono HBX.out.size)⟩
                    · clear hne
                      (haveI := later_any; refine wp_region_later (by kernel_rfl) (by kernel_rfl) ?_; (repeat (go_big_quiet_step (first | (go_at_call 36; exact HC1.out _) | (go_at_call_of 67 ([Value.agg #[Value.bool ot, Value.string ox, Value.bool orr]] : List Value); exact HC2.out _) | (go_at_call_of 67 ([Value.agg #[Value.bool nt, Value.string nx, Value.bool nr]] : List Value); exact HC3.out _)))); refine wpQuiet_nil ?_; intro _ hwq; obtain ⟨xq, hwq2⟩ := hwq; subst hwq2)
                      go_wp2_with fail
                      go_meet
                      case rel => exact ⟨true, rfl, ⟨fun h => (by cases h), fun h => absurd h HNO.out⟩, HBX.out.trans (xq.kept.mono HBX.out.size)⟩
      case rest =>
        obtain ⟨bl, rfl, hbl, hb3⟩ := hcut
        have hbw3 := hal.trans (hb3.mono hal.size)
        cases bl with
        | true =>
          have hbad : ¬ ValidP cs := fun hv => by have := hbl.2 (hv.2 k hlt); cases this
          go_wp2
          go_ret
          exact VpPost.no hbad hbw3
        | false =>
          have HP : Keep (∀ j, j < k + 1 → POk cs j) := ⟨fun j hj => by
            by_cases e : j = k
            · subst e; exact hbl.1 rfl
            · exact hok.out j (by omega)⟩
          clear hbl
          go_wp2
          go_roundw
          case rel => exact ⟨k + 1, by congr 1, hlt, HP, hb3⟩
          case measure => simp only [intOf]; omega
    · obtain rfl : k = cs.length := by omega
      go_wp2
      go_ret
      exact ⟨true, rfl, ⟨fun _ => ⟨by omega, hok.out⟩, fun _ => rfl⟩, hb⟩
end Go.Proofs.Ytjlflmbifeocbaa

namespace Go.Proofs.Ytjlflmbifeocbaa
open Go.RowKit

def ApplyRel (ts : List En) (cs : List Ch) (us : List En) (c : Int) : Prop :=
  (¬ (ValidTs ts ∧ ValidP cs) ∧ us = [] ∧ c = 1) ∨ (ValidTs ts ∧ ValidP cs ∧
    (((∃ x ∈ cs, sameF (atL ts x.path) x.old = false) ∧ us = [] ∧ c = 2) ∨
     ((∀ x ∈ cs, sameF (atL ts x.path) x.old = true) ∧ ∃ vs, AppRel ts cs vs ∧ ((¬ ValidTs vs ∧ us = [] ∧ c = 3) ∨ (ValidTs vs ∧ us = vs ∧ c = 0)))))
theorem apply_one {ts : List En} {cs : List Ch} {us us' : List En} {c c' : Int} (h : ApplyRel ts cs us c) (h' : ApplyRel ts cs us' c') : us = us' ∧ c = c' := by
  rcases h with ⟨h1, rfl, rfl⟩ | ⟨h1, h2, h⟩
  · rcases h' with ⟨_, rfl, rfl⟩ | ⟨h3, h4, _⟩
    · exact ⟨rfl, rfl⟩
    · exact absurd ⟨h3, h4⟩ h1
  · rcases h' with ⟨h3, _⟩ | ⟨_, _, h'⟩
    · exact absurd ⟨h1, h2⟩ h3
    · rcases h with ⟨⟨x, hx, hs⟩, rfl, rfl⟩ | ⟨ha, vs, hv, h⟩
      · rcases h' with ⟨_, rfl, rfl⟩ | ⟨ha, _⟩
        · exact ⟨rfl, rfl⟩
        · rw [ha x hx] at hs; cases hs
      · rcases h' with ⟨⟨x, hx, hs⟩, _⟩ | ⟨_, vs', hv', h'⟩
        · rw [ha x hx] at hs; cases hs
        · obtain rfl := hv.one hv'
          rcases h with ⟨h5, rfl, rfl⟩ | ⟨h5, rfl, rfl⟩
          · rcases h' with ⟨_, rfl, rfl⟩ | ⟨h6, _⟩
            · exact ⟨rfl, rfl⟩
            · exact absurd h6 h5
          · rcases h' with ⟨h6, _⟩ | ⟨_, rfl, rfl⟩
            · exact absurd h5 h6
            · exact ⟨rfl, rfl⟩
theorem EL.box {B ob : Nat} {w : World} {ad : Option Addr} {us : List En} {v : Value} (h : EL B w ad us) (hne : us = [] ∨ blk ad ≠ some ob) : EL B (w.setCell ⟨ob, 0, none⟩ v) ad us := by
  rcases hne with h' | h'
  · subst h'; exact .inl rfl
  · exact h.grown (row := some ob) (grown_set0 w ob 0 v) (fun g hg _ _ e => h' (by rw [hg, e]))
theorem EL.apart {B ob : Nat} {w : World} {ad : Option Addr} {us : List En} (h : EL B w ad us) (hb : ob < B ∨ w.heap.size ≤ ob) : us = [] ∨ blk ad ≠ some ob := by
  rcases h with h | ⟨g, rfl, h1, h2, _⟩
  · exact .inl h
  · refine .inr (fun e => ?_)
    have e2 : g = ob := by simpa [blk] using e
    omega

def ApplyPost (ts : List En) (cs : List Ch) (w : World) (e : Ending) (w' : World) : Prop :=
  ∃ us c, ApplyRel ts cs us c ∧ (∃ ad cap, e = .returned (TreeV ad us.length cap c) ∧ EL w.heap.size w' ad us) ∧ Below w.heap.size w w'

theorem ap_asc {cs : List Ch} (h : ValidP cs) : AscK Ch.path cs := by
  have key : ∀ i, i < cs.length → ∀ j, j < i → ∀ (hi : i < cs.length) (hj : j < cs.length), Op.bytesLess cs[j].path.toList cs[i].path.toList = true := by
    intro i
    induction i with
    | zero => intro _ j hj; omega
    | succ i ih =>
      intro hi j hj hi' hj'
      obtain ⟨_, _, h1⟩ := h.2 (i + 1) hi
      have h2 := h1 i rfl (by omega)
      by_cases e : j = i
      · subst e; exact h2
      · exact less_trans (ih (by omega) j (by omega) (by omega) hj') h2
  exact List.pairwise_iff_getElem.2 fun i j hi hj hij => key j hj i hij hj hi

set_option maxRecDepth 100000 in
set_option maxHeartbeats 8000000 in
theorem specApply_any (a b : Option Addr) (ca cb : Nat) (ts : List En) (cs : List Ch) (w : World) (hts : ES w a ts) (hcs : CS w b cs) (hn : ts.length ≤ 1048576) (hnb : cs.length ≤ 1048576) (hca : (∃ ad, a = some ad) ∨ (a = none ∧ ca = 0)) :
    Calls Try.prog 44 #[.agg #[.slice a ts.length ca], .agg #[.slice b cs.length cb]] w fun e w' => ApplyPost ts cs w e w' := by
  have hal : Below w.heap.size w (((w.alloc (.cells #[.slice a ts.length ca] 25)).alloc (.cells #[.slice b cs.length cb] 30)).alloc (.cells #[.slice none 0 0] 25)) := (((Below.refl _ _).alloc (Nat.le_refl _) _).alloc (by simp) _).alloc (by simp; omega) _
  have m0 : (((w.alloc (.cells #[.slice a ts.length ca] 25)).alloc (.cells #[.slice b cs.length cb] 30)).alloc (.cells #[.slice none 0 0] 25)).cell? ⟨w.heap.size, 0, none⟩ = some (.slice a ts.length ca) := by simp [go_sem]
  have m1 : (((w.alloc (.cells #[.slice a ts.length ca] 25)).alloc (.cells #[.slice b cs.length cb] 30)).alloc (.cells #[.slice none 0 0] 25)).cell? ⟨w.heap.size + 1, 0, none⟩ = some (.slice b cs.length cb) := by simp [go_sem]
  have k0 : (((w.alloc (.cells #[.slice a ts.length ca] 25)).alloc (.cells #[.slice b cs.length cb] 30)).alloc (.cells #[.slice none 0 0] 25)).cell? ⟨w.heap.size + 1 + 1, 0, none⟩ = some (.slice none 0 0) := by simp [go_sem]
  have kf : (((w.alloc (.cells #[.slice a ts.length ca] 25)).alloc (.cells #[.slice b cs.length cb] 30)).alloc (.cells #[.slice none 0 0] 25)).frozen? ⟨w.heap.size + 1 + 1, 0, none⟩ = false := by simp [go_sem]
  have os0 : w.heap.size + 1 + 1 < (((w.alloc (.cells #[.slice a ts.length ca] 25)).alloc (.cells #[.slice b cs.length cb] 30)).alloc (.cells #[.slice none 0 0] 25)).heap.size := by simp [go_sem]
  go_enter Try.func44, Try.ntmps44
  go_upto_region 1 with fail
  generalize ((w.alloc (.cells #[.slice a ts.length ca] 25)).alloc (.cells #[.slice b cs.length cb] 30)).alloc (.cells #[.slice none 0 0] 25) = W at *
  obtain ⟨g, hg⟩ : ∃ g, g = w.heap.size + 1 + 1 := ⟨_, rfl⟩
  obtain ⟨tb, htb⟩ : ∃ tb, tb = w.heap.size + 1 := ⟨_, rfl⟩
  obtain ⟨ta, hta⟩ : ∃ ta, ta = w.heap.size := ⟨_, rfl⟩
  rw [← hg] at k0 kf os0 ⊢
  rw [← htb] at m1 ⊢
  rw [← hta] at m0 ⊢
  have HS : Keep (ta = w.heap.size ∧ tb = w.heap.size + 1 ∧ g = w.heap.size + 2) := ⟨by omega⟩
  clear hg htb hta
  go_cut [16] (fun v wx => ∃ nb : Bool, v = .bool nb ∧ Keep (nb = false ↔ ValidTs ts ∧ ValidP cs) ∧ Below W.heap.size W wx)
  case first =>
    go_wp2_with fail
    refine (specTree_any a ca ts W (hts.below hal) hn).mono ?_
    rintro e w1 ⟨va, rfl, hva, hb1⟩
    have m1' := cell_later hb1 m1
    cases va with
    | false =>
      have HV : Keep ((true = false) ↔ ValidTs ts ∧ ValidP cs) := ⟨⟨fun h => (by cases h), fun h => (by have := hva.2 h.1; cases this)⟩⟩
      clear hva
      go_wp2_with fail
      go_meet
      case rel => exact ⟨true, rfl, HV, hb1⟩
    | true =>
      have HV : Keep (ValidTs ts) := ⟨hva.1 rfl⟩
      clear hva
      go_wp2_with fail
      refine (specPatch_any b cb cs w1 ((hcs.below hal).below hb1) hnb).mono ?_
      rintro e w2 ⟨vb, rfl, hvb, hb2⟩
      have HV2 : Keep ((!vb) = false ↔ ValidTs ts ∧ ValidP cs) := ⟨⟨fun h => ⟨HV.out, hvb.1 (by simpa using h)⟩, fun h => by rw [hvb.2 h.2]; rfl⟩⟩
      clear hvb
      go_wp2_with fail
      go_meet
      case rel => exact ⟨_, rfl, HV2, hb1.trans (hb2.mono hb1.size)⟩
  case rest =>
    obtain ⟨nb, rfl, HV, hb1⟩ := hcut
    replace m0 := cell_later hb1 m0
    replace m1 := cell_later hb1 m1
    replace k0 := cell_later hb1 k0
    replace kf : wc.frozen? ⟨g, 0, none⟩ = false := (hb1.frozen (p := ⟨g, 0, none⟩) os0).trans kf
    have os1 : g < wc.heap.size := Nat.lt_of_lt_of_le os0 hb1.size
    have hbw := hal.trans (hb1.mono hal.size)
    clear hb1 hal os0
    cases nb with
    | true =>
      have hnv : ¬ (ValidTs ts ∧ ValidP cs) := fun h => by have := HV.out.2 h; cases this
      go_wp2
      refine bodyPost_ret (v := TreeV none ([] : List En).length 0 1) ?_ rfl ⟨[], 1, .inl ⟨hnv, rfl, rfl⟩, ⟨none, 0, rfl, EL.nil _ _ _⟩, hbw.setCell (p := ⟨g, 0, none⟩) (by have := HS.out; show _ ≤ g; omega) _⟩
      go_light
      simp [results, Try.results44, go_sem, TreeV, k0]
    | false =>
      have hv := HV.out.1 rfl
      have HS1 : Keep (g < wc.heap.size) := ⟨os1⟩
      clear os1
      go_wp2
      go_loopw [6] (fun i wr => ∃ k : Nat, i = .int .i64 k ∧ k ≤ cs.length ∧ Below wc.heap.size wc wr ∧ Keep (∀ x ∈ cs.take k, sameF (atL ts x.path) x.old = true)) (fun i _ => cs.length - (intOf i).toNat)
      case atStart => exact ⟨0, rfl, Nat.zero_le _, Below.refl _ _, ⟨fun x hx => by simp at hx⟩⟩
      case round =>
        obtain ⟨k, rfl, hk, hbk, HSM⟩ := hrel
        have t0 := cell_later hbk m0
        have t1 := cell_later hbk m1
        have hbx := hbw.trans (hbk.mono hbw.size)
        by_cases hlt : k < cs.length
        · have hlt' : (k : Int) < cs.length := by omega
          obtain ⟨b1, o1, rfl, hc1⟩ := (hcs.below hbx).at hlt
          obtain ⟨x0, x1, x2, x3, x4, x5, x6⟩ := hc1 k hlt
          have ct0 : ∀ z : Later wr, z.world.cell? ⟨ta, 0, none⟩ = some (.slice a ts.length ca) := fun z => cell_later z.kept t0
          have ct1 : ∀ z : Later wr, z.world.cell? ⟨tb, 0, none⟩ = some (.slice (some ⟨b1, o1, none⟩) cs.length cb) := fun z => cell_later z.kept t1
          have cx0 : ∀ z : Later wr, z.world.cell? ⟨b1, o1 + k * 7, none⟩ = some (.string cs[k].path) := fun z => cell_later z.kept x0
          have cx1 : ∀ z : Later wr, z.world.cell? ⟨b1, o1 + k * 7 + 1, none⟩ = some (.bool cs[k].old.there) := fun z => cell_later z.kept x1
          have cx2 : ∀ z : Later wr, z.world.cell? ⟨b1, o1 + k * 7 + 2, none⟩ = some (.string cs[k].old.text) := fun z => cell_later z.kept x2
          have cx3 : ∀ z : Later wr, z.world.cell? ⟨b1, o1 + k * 7 + 3, none⟩ = some (.bool cs[k].old.runs) := fun z => cell_later z.kept x3
          have kr := cell_later hbk k0
          have kfr : wr.frozen? ⟨g, 0, none⟩ = false := (hbk.frozen (p := ⟨g, 0, none⟩) HS1.out).trans kf
          have HG : Keep (g < wr.heap.size) := ⟨Nat.lt_of_lt_of_le HS1.out hbk.size⟩
          obtain ⟨f1, hf1⟩ : ∃ f1, f1 = atL ts cs[k].path := ⟨_, rfl⟩
          have HA1 : Keep (∀ z : Later wr, Calls Try.prog 35 #[.agg #[.slice a ts.length ca], .string cs[k].path] z.world fun e w'' => e = .returned (.agg #[.bool f1.there, .string f1.text, .bool f1.runs]) ∧ ∃ q : Later wr, w'' = q.world) := ⟨fun z => by rw [hf1]; exact Later.call z (l6At_any a ca ts cs[k].path z.world ((hts.below hbx).below z.kept) hn)⟩
          have HT : Keep (cs.take (k + 1) = cs.take k ++ [cs[k]]) := ⟨List.take_succ_eq_append_getElem hlt⟩
          clear hc1 x0 x1 x2 x3 x4 x5 x6
          cases hsm : sameF f1 cs[k].old with
          | true =>
            have HN2 : Keep (∀ x ∈ cs.take (k + 1), sameF (atL ts x.path) x.old = true) := ⟨fun x hx => by
              rw [HT.out] at hx
              rcases List.mem_append.1 hx with h' | h'
              · exact HSM.out x h'
              · rw [List.mem_singleton.1 h', ← hf1]; exact hsm⟩
            obtain ⟨⟨h1, h2⟩, h3⟩ : (f1.there = cs[k].old.there ∧ f1.text.toList = cs[k].old.text.toList) ∧ f1.runs = cs[k].old.runs := by simpa [sameF] using hsm
            have h4 : f1.text = cs[k].old.text := WideShapes.bytes_inj (by rw [← Lib.toList_data, ← Lib.toList_data]; exact h2)
            rw [← h1] at cx1
            rw [← h4] at cx2
            rw [← h3] at cx3
            clear hsm h1 h2 h3 h4 hf1
            go_upto_region 6 with fail
            (haveI := later_any; refine wp_region_later (by kernel_rfl) (by kernel_rfl) ?_; (repeat (go_big_quiet_step (first | (go_at_call 35; exact HA1.out _)))); refine wpQuiet_nil ?_; intro _ hwq; obtain ⟨xq, hwq2⟩ := hwq; subst hwq2)
            have hbq := hbk.trans (xq.kept.mono hbk.size)
            clear ct0 ct1 cx0 cx1 cx2 cx3 HA1 t0 t1 hbk hbx kr kfr
            go_wp2
            go_roundw
            case rel => exact ⟨k + 1, by congr 1, hlt, hbq, HN2⟩
            case measure => simp only [intOf]; omega
          | false =>
            have HBad : Keep (∀ X, Below wr.heap.size wr X → ApplyPost ts cs w (.returned (TreeV none ([] : List En).length 0 2)) (X.setCell ⟨g, 0, none⟩ (.slice none 0 0))) := ⟨fun X hX => ⟨[], 2, .inr ⟨hv.1, hv.2, .inl ⟨⟨cs[k], List.getElem_mem hlt, by rw [← hf1]; exact hsm⟩, rfl, rfl⟩⟩, ⟨none, 0, rfl, EL.nil _ _ _⟩, (hbx.trans (hX.mono hbx.size)).setCell (p := ⟨g, 0, none⟩) (by have := HS.out; show _ ≤ g; omega) _⟩⟩
            clear hf1
            by_cases h1 : f1.there = cs[k].old.there
            · by_cases h2 : f1.text.toList = cs[k].old.text.toList
              · by_cases h3 : f1.runs = cs[k].old.runs
                · exfalso
                  rw [Bool.eq_false_iff] at hsm
                  exact hsm (by simp [sameF, h1, h2, h3])
                · clear hsm
                  go_upto_region 6 with fail
                  (haveI := later_any; refine wp_region_later (by kernel_rfl) (by kernel_rfl) ?_; (repeat (go_big_quiet_step (first | (go_at_call 35; exact HA1.out _)))); refine wpQuiet_nil ?_; intro _ hwq; obtain ⟨xq, hwq2⟩ := hwq; subst hwq2)
                  have kq := cell_later xq.kept kr
                  have kfq : xq.world.frozen? ⟨g, 0, none⟩ = false := (xq.kept.frozen (p := ⟨g, 0, none⟩) HG.out).trans kfr
                  have HB : Keep (ApplyPost ts cs w (.returned (TreeV none ([] : List En).length 0 2)) (xq.world.setCell ⟨g, 0, none⟩ (.slice none 0 0))) := ⟨HBad.out xq.world xq.kept⟩
                  go_wp2
                  refine bodyPost_ret (v := TreeV none ([] : List En).length 0 2) ?_ rfl HB.out
                  go_light
                  simp [results, Try.results44, go_sem, TreeV, kq]
              · clear hsm
                go_upto_region 6 with fail
                (haveI := later_any; refine wp_region_later (by kernel_rfl) (by kernel_rfl) ?_; (repeat (go_big_quiet_step (first | (go_at_call 35; exact HA1.out _)))); refine wpQuiet_nil ?_; intro _ hwq; obtain ⟨xq, hwq2⟩ := hwq; subst hwq2)
                have kq := cell_later xq.kept kr
                have kfq : xq.world.frozen? ⟨g, 0, none⟩ = false := (xq.kept.frozen (p := ⟨g, 0, none⟩) HG.out).trans kfr
                have HB : Keep (ApplyPost ts cs w (.returned (TreeV none ([] : List En).length 0 2)) (xq.world.setCell ⟨g, 0, none⟩ (.slice none 0 0))) := ⟨HBad.out xq.world xq.kept⟩
                go_wp2
                refine bodyPost_ret (v := TreeV none ([] : List En).length 0 2) ?_ rfl HB.out
                go_light
                simp [results, Try.results44, go_sem, TreeV, kq]
            · clear hsm
              go_upto_region 6 with fail
              (haveI := later_any; refine wp_region_later (by kernel_rfl) (by kernel_rfl) ?_; (repeat (go_big_quiet_step (first | (go_at_call 35; exact HA1.out _)))); refine wpQuiet_nil ?_; intro _ hwq; obtain ⟨xq, hwq2⟩ := hwq; subst hwq2)
              have kq := cell_later xq.kept kr
              have kfq : xq.world.frozen? ⟨g, 0, none⟩ = false := (xq.kept.frozen (p := ⟨g, 0, none⟩) HG.out).trans kfr
              have HB : Keep (ApplyPost ts cs w (.returned (TreeV none ([] : List En).length 0 2)) (xq.world.setCell ⟨g, 0, none⟩ (.slice none 0 0))) := ⟨HBad.out xq.world xq.kept⟩
              go_wp2
              refine bodyPost_ret (v := TreeV none ([] : List En).length 0 2) ?_ rfl HB.out
              go_light
              simp [results, Try.results44, go_sem, TreeV, kq]
        · obtain rfl : k = cs.length := by omega
          rw [List.take_length] at HSM
          have kr := cell_later hbk k0
          have kfr : wr.frozen? ⟨g, 0, none⟩ = false := (hbk.frozen (p := ⟨g, 0, none⟩) HS1.out).trans kf
          have HG : Keep (g < wr.heap.size) := ⟨Nat.lt_of_lt_of_le HS1.out hbk.size⟩
          have hcp := l5Copy_any a ca ts wr (hts.below hbx) hn hca
          go_wp2_with fail
          refine hcp.mono ?_
          rintro e w2 ⟨⟨ad2, cap2, rfl, hel2⟩, hb2⟩
          have hb3 : Below w2.heap.size w2 (w2.alloc (.cells #[.slice ad2 ts.length cap2] 25)) := (Below.refl _ _).alloc (Nat.le_refl _) _
          have o0 : (w2.alloc (.cells #[.slice ad2 ts.length cap2] 25)).cell? ⟨w2.heap.size, 0, none⟩ = some (.slice ad2 ts.length cap2) := by simp
          have of0 : (w2.alloc (.cells #[.slice ad2 ts.length cap2] 25)).frozen? ⟨w2.heap.size, 0, none⟩ = false := by simp
          have os0 : w2.heap.size < (w2.alloc (.cells #[.slice ad2 ts.length cap2] 25)).heap.size := by simp
          have hap := hel2.apart (ob := w2.heap.size) (.inr (Nat.le_refl _))
          obtain ⟨B0, hB0⟩ : ∃ B0, B0 = wr.heap.size := ⟨_, rfl⟩
          have hel3 : EL B0 (w2.alloc (.cells #[.slice ad2 ts.length cap2] 25)) ad2 ts := by rw [hB0]; exact hel2.below hb3
          have HB0 : Keep (g < B0 ∧ w.heap.size ≤ B0 ∧ B0 ≤ w2.heap.size) := ⟨by have := HG.out; have := hbx.size; have := hb2.size; omega⟩
          clear hB0
          have hbx2 := hbx.trans (hb2.mono hbx.size)
          have m1q := cell_later hb2 t1
          have k0q := cell_later hb2 kr
          have kfq : w2.frozen? ⟨g, 0, none⟩ = false := (hb2.frozen (p := ⟨g, 0, none⟩) HG.out).trans kfr
          have HG2 : Keep (g < w2.heap.size ∧ w.heap.size ≤ g) := ⟨⟨Nat.lt_of_lt_of_le HG.out hb2.size, by have := HS.out; omega⟩⟩
          have hA0 : AppRel ts (cs.take 0) ts := AppRel.start (valid_asc hv.1)
          have ht100 := hv.1.1
          have hc200 := hv.2.1
          have hCK := ap_asc hv.2
          clear hel2 hb2 hcp kr kfr HG t0 t1 hbk hbx
          go_wp2
          generalize w2.alloc (.cells #[.slice ad2 ts.length cap2] 25) = W2 at *
          obtain ⟨ob, hob⟩ : ∃ ob, ob = w2.heap.size := ⟨_, rfl⟩
          rw [← hob] at o0 of0 os0 hap ⊢
          have HOB : Keep (ob = w2.heap.size ∧ ob < W2.heap.size) := ⟨⟨hob, os0⟩⟩
          clear hob os0
          go_loopw [8] (fun i wq => ∃ (k : Nat) (ad : Option Addr) (cp : Nat) (us : List En), i = .int .i64 k ∧ k ≤ cs.length ∧ wq.cell? ⟨ob, 0, none⟩ = some (.slice ad us.length cp) ∧ wq.frozen? ⟨ob, 0, none⟩ = false ∧ EL B0 wq ad us ∧ (us = [] ∨ blk ad ≠ some ob) ∧ Below w2.heap.size w2 wq ∧ AppRel ts (cs.take k) us ∧ us.length ≤ ts.length + k ∧ ob < wq.heap.size) (fun i _ => cs.length - (intOf i).toNat)
          case atStart => exact ⟨0, ad2, cap2, ts, rfl, Nat.zero_le _, o0, of0, hel3, hap, hb3, hA0, Nat.le_refl _, HOB.out.2⟩
          case round =>
            clear o0 of0 hap hel3 hb3 hA0
            obtain ⟨k, ad, cp, us, rfl, hk, o0, of0, hel, hap, hbq, hAR, hul, hobq⟩ := hrel
            have t1 := cell_later hbq m1q
            have hbx3 := hbx2.trans (hbq.mono hbx2.size)
            by_cases hlt : k < cs.length
            · have hlt' : (k : Int) < cs.length := by omega
              obtain ⟨b1, o1, rfl, hc1⟩ := (hcs.below hbx3).at hlt
              obtain ⟨x0, _, _, _, x4, x5, x6⟩ := hc1 k hlt
              have hly := l6Lay_any ad cp us cs[k].path cs[k].new wr.drew (hel.es.below ((Below.refl _ _).drew)) (by omega) hAR.asc
              have HE : Keep (∀ (ad3 : Option Addr) (cp3 : Nat) (vs : List En) (X : World), LayRel us cs[k].path cs[k].new vs → EL wr.heap.size X ad3 vs → Below wr.heap.size wr X → vs.length ≤ us.length + 1 → (X.setCell ⟨ob, 0, none⟩ (.slice ad3 vs.length cp3)).cell? ⟨ob, 0, none⟩ = some (.slice ad3 vs.length cp3) ∧ (X.setCell ⟨ob, 0, none⟩ (.slice ad3 vs.length cp3)).frozen? ⟨ob, 0, none⟩ = false ∧ EL B0 (X.setCell ⟨ob, 0, none⟩ (.slice ad3 vs.length cp3)) ad3 vs ∧ (vs = [] ∨ blk ad3 ≠ some ob) ∧ Below w2.heap.size w2 (X.setCell ⟨ob, 0, none⟩ (.slice ad3 vs.length cp3)) ∧ AppRel ts (cs.take (k + 1)) vs ∧ vs.length ≤ ts.length + (k + 1) ∧ ob < (X.setCell ⟨ob, 0, none⟩ (.slice ad3 vs.length cp3)).heap.size) := ⟨fun ad3 cp3 vs X h1 h2 h3 h4 => by
                have hap3 := h2.apart (ob := ob) (.inl hobq)
                refine ⟨World.cell?_setCell_same _ _ _ (cell_later h3 o0), (World.frozen?_setCell _ _ _ _).trans ((h3.frozen (p := ⟨ob, 0, none⟩) hobq).trans of0), (h2.box hap3).mono (Nat.le_trans HB0.out.2.2 hbq.size), hap3, (hbq.trans (h3.mono hbq.size)).setCell (p := ⟨ob, 0, none⟩) (by have := HOB.out; show _ ≤ ob; omega) _, hAR.step hlt hCK h1, by omega, by have := h3.size; simp; omega⟩⟩
              go_upto_region 12 with fail
              refine (wpIn_wide (n := 0)).1 ?_
              refine wpIn_region_inv0 (by kernel_rfl) (by kernel_rfl) (fun T0 => YV T0 wr (.agg #[.slice ad us.length cp]) (.slice (some ⟨b1, o1, none⟩) cs.length cb) (.int .i64 k) tb b1 (o1 + k * 7) us cs[k].path cs[k].new (fun X => ∃ (ad3 : Option Addr) (cp3 : Nat) (vs : List En), X.cell? ⟨ob, 0, none⟩ = some (.slice ad3 vs.length cp3) ∧ X.frozen? ⟨ob, 0, none⟩ = false ∧ EL B0 X ad3 vs ∧ (vs = [] ∨ blk ad3 ≠ some ob) ∧ Below w2.heap.size w2 X ∧ AppRel ts (cs.take (k + 1)) vs ∧ vs.length ≤ ts.length + (k + 1) ∧ ob < X.heap.size)) ?_ ?_ ?_
              · exact ⟨Sl2.start _, fun _ => rfl, (fun h => by rw [getD_repl] at h; cases h), (fun h => by rw [getD_repl] at h; cases h)⟩
              · intro L a2 w9 hinv hall
                obtain ⟨ad3, cp3, vs, y1, y2, y3, y4, y5, y6, y7, y8⟩ := hinv.w3 (hall 14 (by decide))
                have HX : Keep _ := ⟨hinv.sl.act⟩
                clear hinv hall HE hly x0 x4 x5 x6 t1 o0 of0
                rw [HX.out]
                simp only [updL, yDs, List.contains_cons, List.contains_nil, Nat.reduceAdd, Nat.reduceBEq, Bool.or_false, cond_false, cond_true, Bool.or_true]
                go_wp2
                go_roundw
                case rel => exact ⟨k + 1, ad3, cp3, vs, by congr 1, hlt, y1, y2, y3, y4, y5, y6, y7, y8⟩
                case measure => simp only [intOf]; omega
              · intro L a2 w9 i o hinv hcl hL ho hdep
                have hi15 : i < 15 := (Array.getElem?_eq_some_iff.1 ho).1
                unfold wpOpIn
                rw [ho]
                have q13 : i < 13 → L.getD 13 false = false := fun hi => by
                  cases hb : L.getD 13 false with
                  | false => rfl
                  | true =>
                    exfalso
                    have d0 := hcl 13 _ rfl hb ⟨0, .data⟩ (by simp) rfl
                    have d6 := hcl 13 _ rfl hb ⟨6, .data⟩ (by simp) rfl
                    have d12 := hcl 13 _ rfl hb ⟨12, .data⟩ (by simp) rfl
                    have d5 := hcl 6 _ rfl d6 ⟨5, .data⟩ (by simp) rfl
                    have d4 := hcl 5 _ rfl d5 ⟨4, .data⟩ (by simp) rfl
                    have d3 := hcl 4 _ rfl d4 ⟨3, .data⟩ (by simp) rfl
                    have d2 := hcl 4 _ rfl d4 ⟨2, .data⟩ (by simp) rfl
                    have d1 := hcl 2 _ rfl d2 ⟨1, .data⟩ (by simp) rfl
                    have d11 := hcl 12 _ rfl d12 ⟨11, .data⟩ (by simp) rfl
                    have d10 := hcl 11 _ rfl d11 ⟨10, .data⟩ (by simp) rfl
                    have d9 := hcl 10 _ rfl d10 ⟨9, .data⟩ (by simp) rfl
                    have d8 := hcl 10 _ rfl d10 ⟨8, .data⟩ (by simp) rfl
                    have d7 := hcl 8 _ rfl d8 ⟨7, .data⟩ (by simp) rfl
                    have hf := getD_ft hL
                    match i, hi, hf with
                    | 0, _, hf => rw [d0] at hf; cases hf
                    | 1, _, hf => rw [d1] at hf; cases hf
                    | 2, _, hf => rw [d2] at hf; cases hf
                    | 3, _, hf => rw [d3] at hf; cases hf
                    | 4, _, hf => rw [d4] at hf; cases hf
                    | 5, _, hf => rw [d5] at hf; cases hf
                    | 6, _, hf => rw [d6] at hf; cases hf
                    | 7, _, hf => rw [d7] at hf; cases hf
                    | 8, _, hf => rw [d8] at hf; cases hf
                    | 9, _, hf => rw [d9] at hf; cases hf
                    | 10, _, hf => rw [d10] at hf; cases hf
                    | 11, _, hf => rw [d11] at hf; cases hf
                    | 12, _, hf => rw [d12] at hf; cases hf
                have q14 : L.getD 13 true = false → L.getD 14 false = false := fun h9 => by
                  cases hb : L.getD 14 false with
                  | false => rfl
                  | true => exfalso; have h := hcl 14 _ rfl hb ⟨13, .data⟩ (by simp) rfl; rw [getD_ft h9] at h; cases h
                clear hcl
                match i, hi15, hL, ho, hdep, q13 with
                | 0, _, hL, ho, hdep, q13 =>
                  injection ho with ho; subst ho
                  dsimp only
                  rw [if_pos (by rfl)]
                  refine ⟨fun f _ => trivial, ?_⟩
                  obtain rfl := hinv.w0 (q13 (by omega))
                  have e7 : a2.tmps[7]?.getD undef = .pointer (some ⟨ob, 0, none⟩) := hinv.sl.old (by decide)
                  go_simp
                  exact hinv.step (i := 0) rfl (by omega) rfl
                | 1, _, hL, ho, hdep, q13 =>
                  injection ho with ho; subst ho
                  dsimp only
                  rw [if_pos (by rfl)]
                  refine ⟨fun f _ => trivial, ?_⟩
                  obtain rfl := hinv.w0 (q13 (by omega))
                  have e3 : a2.tmps[3]?.getD undef = .pointer (some ⟨tb, 0, none⟩) := hinv.sl.old (by decide)
                  go_simp
                  exact hinv.step (i := 1) rfl (by omega) rfl
                | 2, _, hL, ho, hdep, q13 =>
                  injection ho with ho; subst ho
                  dsimp only
                  rw [if_pos (by rfl)]
                  refine ⟨fun f _ => trivial, ?_⟩
                  obtain rfl := hinv.w0 (q13 (by omega))
                  have e51 : a2.tmps[51]?.getD undef = .pointer (some ⟨tb, 0, none⟩) := hinv.sl.new (i := 1) (by decide) rfl (hdep ⟨1, .data⟩ (by simp) rfl)
                  go_simp
                  exact hinv.step (i := 2) rfl (by omega) rfl
                | 3, _, hL, ho, hdep, q13 =>
                  injection ho with ho; subst ho
                  dsimp only
                  rw [if_pos (by rfl)]
                  refine ⟨fun f _ => trivial, ?_⟩
                  obtain rfl := hinv.w0 (q13 (by omega))
                  have e8 : a2.tmps[8]?.getD undef = .int .i64 k := hinv.sl.old (by decide)
                  go_simp
                  exact hinv.step (i := 3) rfl (by omega) rfl
                | 4, _, hL, ho, hdep, q13 =>
                  injection ho with ho; subst ho
                  dsimp only
                  rw [if_pos (by rfl)]
                  refine ⟨fun f _ => trivial, ?_⟩
                  obtain rfl := hinv.w0 (q13 (by omega))
                  have e52 : a2.tmps[52]?.getD undef = .slice (some ⟨b1, o1, none⟩) cs.length cb := hinv.sl.new (i := 2) (by decide) rfl (hdep ⟨2, .data⟩ (by simp) rfl)
                  have e53 : a2.tmps[53]?.getD undef = .int .i64 k := hinv.sl.new (i := 3) (by decide) rfl (hdep ⟨3, .data⟩ (by simp) rfl)
                  go_simp
                  exact hinv.step (i := 4) rfl (by omega) rfl
                | 5, _, hL, ho, hdep, q13 =>
                  injection ho with ho; subst ho
                  dsimp only
                  rw [if_pos (by rfl)]
                  refine ⟨fun f _ => trivial, ?_⟩
                  obtain rfl := hinv.w0 (q13 (by omega))
                  have e54 : a2.tmps[54]?.getD undef = .pointer (some ⟨b1, o1 + k * 7, none⟩) := hinv.sl.new (i := 4) (by decide) rfl (hdep ⟨4, .data⟩ (by simp) rfl)
                  go_simp
                  exact hinv.step (i := 5) rfl (by omega) rfl
                | 6, _, hL, ho, hdep, q13 =>
                  injection ho with ho; subst ho
                  dsimp only
                  rw [if_pos (by rfl)]
                  refine ⟨fun f _ => trivial, ?_⟩
                  obtain rfl := hinv.w0 (q13 (by omega))
                  have e55 : a2.tmps[55]?.getD undef = .pointer (some ⟨b1, o1 + k * 7, none⟩) := hinv.sl.new (i := 5) (by decide) rfl (hdep ⟨5, .data⟩ (by simp) rfl)
                  go_simp
                  exact hinv.step (i := 6) rfl (by omega) rfl
                | 7, _, hL, ho, hdep, q13 =>
                  injection ho with ho; subst ho
                  dsimp only
                  rw [if_pos (by rfl)]
                  refine ⟨fun f _ => trivial, ?_⟩
                  obtain rfl := hinv.w0 (q13 (by omega))
                  have e3 : a2.tmps[3]?.getD undef = .pointer (some ⟨tb, 0, none⟩) := hinv.sl.old (by decide)
                  go_simp
                  exact hinv.step (i := 7) rfl (by omega) rfl
                | 8, _, hL, ho, hdep, q13 =>
                  injection ho with ho; subst ho
                  dsimp only
                  rw [if_pos (by rfl)]
                  refine ⟨fun f _ => trivial, ?_⟩
                  obtain rfl := hinv.w0 (q13 (by omega))
                  have e57 : a2.tmps[57]?.getD undef = .pointer (some ⟨tb, 0, none⟩) := hinv.sl.new (i := 7) (by decide) rfl (hdep ⟨7, .data⟩ (by simp) rfl)
                  go_simp
                  exact hinv.step (i := 8) rfl (by omega) rfl
                | 9, _, hL, ho, hdep, q13 =>
                  injection ho with ho; subst ho
                  dsimp only
                  rw [if_pos (by rfl)]
                  refine ⟨fun f _ => trivial, ?_⟩
                  obtain rfl := hinv.w0 (q13 (by omega))
                  have e8 : a2.tmps[8]?.getD undef = .int .i64 k := hinv.sl.old (by decide)
                  go_simp
                  exact hinv.step (i := 9) rfl (by omega) rfl
                | 10, _, hL, ho, hdep, q13 =>
                  injection ho with ho; subst ho
                  dsimp only
                  rw [if_pos (by rfl)]
                  refine ⟨fun f _ => trivial, ?_⟩
                  obtain rfl := hinv.w0 (q13 (by omega))
                  have e58 : a2.tmps[58]?.getD undef = .slice (some ⟨b1, o1, none⟩) cs.length cb := hinv.sl.new (i := 8) (by decide) rfl (hdep ⟨8, .data⟩ (by simp) rfl)
                  have e59 : a2.tmps[59]?.getD undef = .int .i64 k := hinv.sl.new (i := 9) (by decide) rfl (hdep ⟨9, .data⟩ (by simp) rfl)
                  go_simp
                  exact hinv.step (i := 10) rfl (by omega) rfl
                | 11, _, hL, ho, hdep, q13 =>
                  injection ho with ho; subst ho
                  dsimp only
                  rw [if_pos (by rfl)]
                  refine ⟨fun f _ => trivial, ?_⟩
                  obtain rfl := hinv.w0 (q13 (by omega))
                  have e60 : a2.tmps[60]?.getD undef = .pointer (some ⟨b1, o1 + k * 7, none⟩) := hinv.sl.new (i := 10) (by decide) rfl (hdep ⟨10, .data⟩ (by simp) rfl)
                  go_simp
                  exact hinv.step (i := 11) rfl (by omega) rfl
                | 12, _, hL, ho, hdep, q13 =>
                  injection ho with ho; subst ho
                  dsimp only
                  rw [if_pos (by rfl)]
                  refine ⟨fun f _ => trivial, ?_⟩
                  obtain rfl := hinv.w0 (q13 (by omega))
                  have e61 : a2.tmps[61]?.getD undef = .pointer (some ⟨b1, o1 + k * 7 + 4, none⟩) := hinv.sl.new (i := 11) (by decide) rfl (hdep ⟨11, .data⟩ (by simp) rfl)
                  go_simp
                  exact hinv.step (i := 12) rfl (by omega) rfl
                | 13, _, hL, ho, hdep, q13 =>
                  injection ho with ho; subst ho
                  dsimp only
                  rw [if_pos (by rfl)]
                  refine ⟨fun f _ => trivial, ?_⟩
                  obtain rfl := hinv.w0 (getD_ft hL)
                  have e50 : a2.tmps[50]?.getD undef = .agg #[.slice ad us.length cp] := hinv.sl.new (i := 0) (by decide) rfl (hdep ⟨0, .data⟩ (by simp) rfl)
                  have e56 : a2.tmps[56]?.getD undef = .string cs[k].path := hinv.sl.new (i := 6) (by decide) rfl (hdep ⟨6, .data⟩ (by simp) rfl)
                  have e62 : a2.tmps[62]?.getD undef = .agg #[.bool cs[k].new.there, .string cs[k].new.text, .bool cs[k].new.runs] := hinv.sl.new (i := 12) (by decide) rfl (hdep ⟨12, .data⟩ (by simp) rfl)
                  go_simp
                  refine ⟨rfl, CallsIn.mono (callsIn_wide.2 hly) ?_⟩
                  rintro e w' ⟨ad3, cp3, vs, rfl, h1, h2, h3, h4⟩
                  exact hinv.call rfl hL (q14 hL) h1 h2 ((Below.refl wr.heap.size wr).drew.trans (h3.mono (Nat.le_refl _))) h4
                | 14, _, hL, ho, hdep, q13 =>
                  injection ho with ho; subst ho
                  dsimp only
                  rw [if_pos (by rfl)]
                  refine ⟨fun f _ => trivial, ?_⟩
                  obtain ⟨ad3, cp3, vs, ex, h1, h2, h3, h4⟩ := hinv.w1 (hdep ⟨13, .data⟩ (by simp) rfl) (getD_ft hL)
                  have e63 := evalD2 ex
                  have e7 : a2.tmps[7]?.getD undef = .pointer (some ⟨ob, 0, none⟩) := hinv.sl.old (by decide)
                  have oc := cell_later h3 o0
                  have ofc : w9.frozen? ⟨ob, 0, none⟩ = false := (h3.frozen (p := ⟨ob, 0, none⟩) hobq).trans of0
                  go_simp
                  exact hinv.last (hdep ⟨13, .data⟩ (by simp) rfl) hL ⟨ad3, cp3, vs, HE.out ad3 cp3 vs w9 h1 h2 h3 h4⟩
            · obtain rfl : k = cs.length := by omega
              rw [List.take_length] at hAR
              have r2 := cell_later hbq k0q
              have rf2 : wr.frozen? ⟨g, 0, none⟩ = false := (hbq.frozen (p := ⟨g, 0, none⟩) HG2.out.1).trans kfq
              have hgl : g < wr.heap.size := Nat.lt_of_lt_of_le HG2.out.1 hbq.size
              have hst := specTree_any ad cp us wr hel.es (by omega)
              go_wp2_with fail
              refine hst.mono ?_
              rintro e w5 ⟨vb, rfl, hvb, hb5⟩
              have HVB : Keep (vb = true ↔ ValidTs us) := ⟨hvb⟩
              replace r2 := cell_later hb5 r2
              replace o0 := cell_later hb5 o0
              replace rf2 : w5.frozen? ⟨g, 0, none⟩ = false := (hb5.frozen (p := ⟨g, 0, none⟩) hgl).trans rf2
              have hbx5 := hbx3.trans (hb5.mono hbx3.size)
              have hap5 := hel.apart (ob := g) (.inl HB0.out.1)
              have hel5 := hel.below hb5
              cases vb with
              | false =>
                have hnv : ¬ ValidTs us := fun h => by have := HVB.out.2 h; cases this
                have HB : Keep (ApplyPost ts cs w (.returned (TreeV none ([] : List En).length 0 3)) (w5.setCell ⟨g, 0, none⟩ (.slice none 0 0))) := ⟨⟨[], 3, .inr ⟨hv.1, hv.2, .inr ⟨HSM.out, us, hAR, .inl ⟨hnv, rfl, rfl⟩⟩⟩, ⟨none, 0, rfl, EL.nil _ _ _⟩, hbx5.setCell (p := ⟨g, 0, none⟩) HG2.out.2 _⟩⟩
                clear hst hvb hel hel5 hAR hap hap5
                go_wp2
                refine bodyPost_ret (v := TreeV none ([] : List En).length 0 3) ?_ rfl HB.out
                go_light
                simp [results, Try.results44, go_sem, TreeV, r2]
              | true =>
                have hvv := HVB.out.1 rfl
                have HB : Keep (ApplyPost ts cs w (.returned (TreeV ad us.length cp 0)) (w5.setCell ⟨g, 0, none⟩ (.slice ad us.length cp))) := ⟨⟨us, 0, .inr ⟨hv.1, hv.2, .inr ⟨HSM.out, us, hAR, .inr ⟨hvv, rfl, rfl⟩⟩⟩, ⟨ad, cp, rfl, (hel5.box hap5).mono HB0.out.2.1⟩, hbx5.setCell (p := ⟨g, 0, none⟩) HG2.out.2 _⟩⟩
                clear hst hvb hel hel5 hAR hap hap5
                go_wp2
                refine bodyPost_ret (v := TreeV ad us.length cp 0) ?_ rfl HB.out
                go_light
                simp [results, Try.results44, go_sem, TreeV, r2]
end Go.Proofs.Ytjlflmbifeocbaa
