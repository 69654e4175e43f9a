/-
  CutE, FileE, WkI, SortS, AllP, AllI, IdxE, KidI, KidJ, FilP, Grow, ImplTree, Clone: laid as one text.
-/
import Derived.Test.YtjiafjdjocmodaaGreatEntL
import Derived.Below
import Derived.Test.YtjiafjdjocmodaaGreatChangesB
import Derived.Test.YtjiafjdjocmodaaGreatSplitP
import Derived.Test.YtjiafjdjocmodaaGreatZba
import Derived.Test.YtjiafjdjocmodaaGreatDrawPth
import Derived.Test.YtjiafjdjocmodaaGreatRows
import Derived.WalkKit
import Derived.Ground.NamesProg
import Derived.Shelf.Slices.In.CompactS
import Derived.Shelf.Slices.In.SortNone
import Derived.Sort.OwnSorted
import Derived.Sort.Grow
import Derived.Lib.OwnBridge
import Derived.Sort.EveryDepth
import Derived.Test.YtjiafjdjocmodaaGreatZbb
import Derived.Sort.Walk0
import Derived.Test.YtjiafjdjocmodaaGreatBase
import Derived.Shelf.Abstract
import Derived.Shelf.Strings.Prefix
import Derived.Test.YtjiafjdjocmodaaGreatZbc
import Derived.Test.YtjiafjdjocmodaaGreatAtS
import Derived.Test.YtjiafjdjocmodaaGreatMrgP
import Derived.Test.YtjiafjdjocmodaaGreatTreeU
import Derived.Test.YtjiafjdjocmodaaGreatTreeP
import Derived.Deep.QuietTactic
import Derived.BigQuiet
import Derived.Deep.DeepCutAuto
import Derived.Shelf.Pu.Clone
namespace Go.Proofs.YtjiafjdjocmodaaGreat
open Go.RowKit

/-- The entry that is nothing. -/
def zeroE : En := ⟨⟨#[]⟩, ⟨#[]⟩, false⟩
def cutEV (e : En) : Value := .agg #[.string e.path, .string e.text, .bool e.runs]

set_option maxRecDepth 100000 in
theorem cutEn (a : Option Addr) (cp : Nat) (ts : List En) (k : Nat) (hk : k ≤ ts.length) (hc : ts.length ≤ cp) : ∃ ad' c', (∀ w1, (Instr.sliceAt 23 (.slice a ts.length cp) (some (.int .i64 (k : Int))) none none).run Tryz.prog w1 = .ok (.slice ad' (ts.drop k).length c') w1) ∧ ∀ W, ES W a ts → ES W ad' (ts.drop k) := by
  have hrun : ∀ w1, (Instr.sliceAt 23 (.slice a ts.length cp) (some (.int .i64 (k : Int))) none none).run Tryz.prog w1 = .ok (sliced a k ts.length cp 3) w1 := fun w1 => by
    rw [run_sliceAt_slice w1 _ _ _ _ _ Tryz.underlying23, run_slice_l w1 _ _ _ _ Tryz.underlying23 .i64 (k : Int) (by omega) (by omega)]
    have hz : (sizeOf (Tryz.prog.elem 23)).run Tryz.prog w1 = .ok 3 w1 := by kernel_rfl
    rw [hz, show (k : Int).toNat = k by omega]
    rfl
  refine ⟨if cp = k then a else a.map (·.add (k * 3)), cp - k, fun w1 => by rw [hrun w1, List.length_drop]; rfl, fun W hE => ?_⟩
  rcases hE with h | ⟨b, off, rfl, hcl⟩
  · subst h; exact .inl (by simp)
  · by_cases hl : k = ts.length
    · subst hl; exact .inl (by simp)
    · rw [if_neg (by omega)]
      refine .inr ⟨b, off + k * 3, by rw [Option.map_some, WideShapes.add_plain], fun i hi => ?_⟩
      rw [List.length_drop] at hi
      obtain ⟨c0, c1, c2⟩ := hcl (k + i) (by omega)
      rw [List.getElem_drop]
      rw [show off + k * 3 + i * 3 = off + (k + i) * 3 by omega]
      exact ⟨c0, c1, c2⟩

theorem ES.cells {w : World} {b off : Nat} {ts : List En} (h : ES w (some ⟨b, off, none⟩) ts) {k : Nat} (hk : k < ts.length) :
    w.cell? ⟨b, off + k * 3, none⟩ = some (.string ts[k].path) ∧ w.cell? ⟨b, off + k * 3 + 1, none⟩ = some (.string ts[k].text) ∧ w.cell? ⟨b, off + k * 3 + 2, none⟩ = some (.bool ts[k].runs) := by
  obtain ⟨b', o', ha, hc⟩ := h.at hk
  simp only [Option.some.injEq, Addr.mk.injEq, and_true] at ha
  obtain ⟨rfl, rfl⟩ := ha
  exact hc k hk

theorem box3_set {X : World} {g : Nat} {u0 u1 u2 : Value} (v0 v1 v2 : Value) (h0 : X.cell? ⟨g, 0, none⟩ = some u0) (h1 : X.cell? ⟨g, 1, none⟩ = some u1) (h2 : X.cell? ⟨g, 2, none⟩ = some u2) :
    (((X.setCell ⟨g, 0, none⟩ v0).setCell ⟨g, 1, none⟩ v1).setCell ⟨g, 2, none⟩ v2).cell? ⟨g, 0, none⟩ = some v0 ∧ (((X.setCell ⟨g, 0, none⟩ v0).setCell ⟨g, 1, none⟩ v1).setCell ⟨g, 2, none⟩ v2).cell? ⟨g, 1, none⟩ = some v1 ∧ (((X.setCell ⟨g, 0, none⟩ v0).setCell ⟨g, 1, none⟩ v1).setCell ⟨g, 2, none⟩ v2).cell? ⟨g, 2, none⟩ = some v2 := by
  refine ⟨?_, ?_, ?_⟩
  · rw [World.cell?_setCell_other _ _ _ _ (by simp), World.cell?_setCell_other _ _ _ _ (by simp)]; exact World.cell?_setCell_same _ _ _ h0
  · rw [World.cell?_setCell_other _ _ _ _ (by simp)]; exact World.cell?_setCell_same _ _ _ ((World.cell?_setCell_other _ _ _ _ (by simp)).trans h1)
  · exact World.cell?_setCell_same _ _ _ ((World.cell?_setCell_other _ _ _ _ (by simp)).trans ((World.cell?_setCell_other _ _ _ _ (by simp)).trans h2))
theorem box3_other {X : World} {g h j : Nat} (v0 v1 v2 : Value) (hn : ¬ g = h) : (((X.setCell ⟨g, 0, none⟩ v0).setCell ⟨g, 1, none⟩ v1).setCell ⟨g, 2, none⟩ v2).cell? ⟨h, j, none⟩ = X.cell? ⟨h, j, none⟩ := by
  have hne : ∀ k, (⟨g, k, none⟩ : Addr) ≠ ⟨h, j, none⟩ := fun k e => hn (congrArg Addr.block e)
  rw [World.cell?_setCell_other _ _ _ _ (hne _), World.cell?_setCell_other _ _ _ _ (hne _), World.cell?_setCell_other _ _ _ _ (hne _)]
theorem box3_below {w X : World} {g : Nat} (v0 v1 v2 : Value) (hX : Below w.heap.size w X) (hg : w.heap.size ≤ g) : Below w.heap.size w (((X.setCell ⟨g, 0, none⟩ v0).setCell ⟨g, 1, none⟩ v1).setCell ⟨g, 2, none⟩ v2) :=
  (((hX.setCell (p := ⟨g, 0, none⟩) hg _).setCell (p := ⟨g, 1, none⟩) hg _).setCell (p := ⟨g, 2, none⟩) hg _)
theorem box3_fz {X : World} {g : Nat} {p : Addr} (v0 v1 v2 : Value) : (((X.setCell ⟨g, 0, none⟩ v0).setCell ⟨g, 1, none⟩ v1).setCell ⟨g, 2, none⟩ v2).frozen? p = X.frozen? p := by
  rw [World.frozen?_setCell, World.frozen?_setCell, World.frozen?_setCell]
end Go.Proofs.YtjiafjdjocmodaaGreat

namespace Go.Proofs.YtjiafjdjocmodaaGreat
open Go.RowKit

def isZ (e : En) : Bool := (e.path.toList == ([] : List UInt8)) && (e.text.toList == ([] : List UInt8)) && !e.runs
def fileE (e : En) : Fl := ⟨!isZ e, e.text, e.runs⟩

set_option maxRecDepth 100000 in
set_option maxHeartbeats 4000000 in
theorem fileE_any (e : En) (w : World) : Calls Tryz.prog 57 #[.agg #[.string e.path, .string e.text, .bool e.runs]] w fun r w' => r = .returned (.agg #[.bool (fileE e).there, .string (fileE e).text, .bool (fileE e).runs]) ∧ Below w.heap.size w w' := by
  obtain ⟨p, t, r⟩ := e
  have hbw : Below w.heap.size w ((w.alloc (.cells #[.string p, .string t, .bool r] 55)).alloc (.cells #[.bool false, .string ⟨#[]⟩, .bool false] 51)) := ((Below.refl _ _).alloc (Nat.le_refl _) _).alloc (by simp) _
  have c0 : ((w.alloc (.cells #[.string p, .string t, .bool r] 55)).alloc (.cells #[.bool false, .string ⟨#[]⟩, .bool false] 51)).cell? ⟨w.heap.size, 0, none⟩ = some (.string p) := by simp [go_sem]
  have c1 : ((w.alloc (.cells #[.string p, .string t, .bool r] 55)).alloc (.cells #[.bool false, .string ⟨#[]⟩, .bool false] 51)).cell? ⟨w.heap.size, 1, none⟩ = some (.string t) := by simp [go_sem]
  have c2 : ((w.alloc (.cells #[.string p, .string t, .bool r] 55)).alloc (.cells #[.bool false, .string ⟨#[]⟩, .bool false] 51)).cell? ⟨w.heap.size, 2, none⟩ = some (.bool r) := by simp [go_sem]
  have r0 : ((w.alloc (.cells #[.string p, .string t, .bool r] 55)).alloc (.cells #[.bool false, .string ⟨#[]⟩, .bool false] 51)).cell? ⟨w.heap.size + 1, 0, none⟩ = some (.bool false) := by simp [go_sem]
  have r1 : ((w.alloc (.cells #[.string p, .string t, .bool r] 55)).alloc (.cells #[.bool false, .string ⟨#[]⟩, .bool false] 51)).cell? ⟨w.heap.size + 1, 1, none⟩ = some (.string ⟨#[]⟩) := by simp [go_sem]
  have r2 : ((w.alloc (.cells #[.string p, .string t, .bool r] 55)).alloc (.cells #[.bool false, .string ⟨#[]⟩, .bool false] 51)).cell? ⟨w.heap.size + 1, 2, none⟩ = some (.bool false) := by simp [go_sem]
  have rf : ∀ j, ((w.alloc (.cells #[.string p, .string t, .bool r] 55)).alloc (.cells #[.bool false, .string ⟨#[]⟩, .bool false] 51)).frozen? ⟨w.heap.size + 1, j, none⟩ = false := fun j => by simp [go_sem]
  go_enter Tryz.func57, Tryz.ntmps57
  go_upto_region 1 with fail
  generalize (w.alloc (.cells #[.string p, .string t, .bool r] 55)).alloc (.cells #[.bool false, .string ⟨#[]⟩, .bool false] 51) = W at *
  have HL : Keep (w.heap.size ≤ w.heap.size + 1) := ⟨by omega⟩
  obtain ⟨rb, hrb⟩ : ∃ rb, rb = w.heap.size + 1 := ⟨_, rfl⟩
  obtain ⟨tb, htb⟩ : ∃ tb, tb = w.heap.size := ⟨_, rfl⟩
  rw [← hrb] at r0 r1 r2 rf ⊢
  rw [← htb] at c0 c1 c2 ⊢
  have HO : Keep (w.heap.size ≤ rb) := ⟨by omega⟩
  have nt : ¬ tb = rb := by omega
  have nt2 : ¬ rb = tb := by omega
  clear hrb htb HL
  have hemp : ∀ z : ByteArray, z.toList = [] → z = ⟨#[]⟩ := fun z h => WideShapes.bytes_inj (by rw [← Lib.toList_data, h])
  cases hz : isZ ⟨p, t, r⟩ with
  | true =>
    obtain ⟨⟨h1, h2⟩, h3⟩ : (p.toList = [] ∧ t.toList = []) ∧ r = false := by simpa [isZ] using hz
    obtain rfl := hemp p h1
    obtain rfl := hemp t h2
    subst h3
    have HZ : Keep (fileE ⟨⟨#[]⟩, ⟨#[]⟩, false⟩ = ⟨false, ⟨#[]⟩, false⟩) := ⟨by unfold fileE; rw [hz]; rfl⟩
    clear h1 h2 hz hemp
    go_region
    all_goals (try go_wp2)
    all_goals
      refine bodyPost_ret (v := .agg #[.bool false, .string ⟨#[]⟩, .bool false]) ?_ rfl ⟨by rw [HZ.out], ?_⟩
      · go_light
        simp [results, Tryz.results57, go_sem, r0, r1, r2]
      · repeat (first | ((with_reducible refine Below.setCell ?_ ?hq2 _); (case hq2 => exact HO.out)) | (with_reducible refine Below.drew ?_))
        exact hbw

  | false =>
    have HZ : Keep (fileE ⟨p, t, r⟩ = ⟨true, t, r⟩) := ⟨by unfold fileE; rw [hz]; rfl⟩
    by_cases h1 : p.toList = []
    · obtain rfl := hemp p h1
      by_cases h2 : t.toList = []
      · obtain rfl := hemp t h2
        cases r with
        | false =>
          exfalso
          rw [Bool.eq_false_iff] at hz
          exact hz (by simp [isZ, h1])
        | true =>
          clear hz h1 h2 hemp
          go_region
          all_goals (try go_wp2)
          all_goals
            refine bodyPost_ret (v := .agg #[.bool true, .string ⟨#[]⟩, .bool true]) ?_ rfl ⟨by rw [HZ.out], ?_⟩
            · go_light
              simp [results, Tryz.results57, go_sem, r0, r1, r2]
            · repeat (first | ((with_reducible refine Below.setCell ?_ ?hq2 _); (case hq2 => exact HO.out)) | (with_reducible refine Below.drew ?_))
              exact hbw

      · have ht : (t.toList == ([] : List UInt8)) = false := by simpa using h2
        clear hz h1 h2 hemp
        go_region
        all_goals (try go_wp2)
        all_goals
          refine bodyPost_ret (v := .agg #[.bool true, .string t, .bool r]) ?_ rfl ⟨by rw [HZ.out], ?_⟩
          · go_light
            simp [results, Tryz.results57, go_sem, r0, r1, r2]
          · repeat (first | ((with_reducible refine Below.setCell ?_ ?hq2 _); (case hq2 => exact HO.out)) | (with_reducible refine Below.drew ?_))
            exact hbw

    · have hp : (p.toList == ([] : List UInt8)) = false := by simpa using h1
      clear hz h1 hemp
      go_region
      all_goals (try go_wp2)
      all_goals
        refine bodyPost_ret (v := .agg #[.bool true, .string t, .bool r]) ?_ rfl ⟨by rw [HZ.out], ?_⟩
        · go_light
          simp [results, Tryz.results57, go_sem, r0, r1, r2]
        · repeat (first | ((with_reducible refine Below.setCell ?_ ?hq2 _); (case hq2 => exact HO.out)) | (with_reducible refine Below.drew ?_))
          exact hbw
end Go.Proofs.YtjiafjdjocmodaaGreat

namespace Go.Proofs.YtjiafjdjocmodaaGreat
open Go.RowKit

/-- How far it stands behind a path, and what it says. -/
def nx (ts : List En) (k : Nat) (p : ByteArray) : Nat := match ts[k]? with
  | some e => if (e.path.toList == p.toList) = true then k + 1 else k
  | none => k
def wk (ts : List En) (k : Nat) (p : ByteArray) : Fl := match ts[k]? with
  | some e => if (e.path.toList == p.toList) = true then ⟨true, e.text, e.runs⟩ else noFl
  | none => noFl
/-- It stands at k: what lies before it was asked for, what lies behind was not. -/
structure WkAt (ts : List En) (ns : List ByteArray) (k : Nat) : Prop where
  le : k ≤ ts.length
  lo : ∀ i (h : i < ts.length), i < k → ts[i].path ∈ ns
  hi : ∀ i (h : i < ts.length), k ≤ i → ts[i].path ∉ ns
theorem WkAt.start (ts : List En) : WkAt ts [] 0 := ⟨Nat.zero_le _, fun i _ h => by omega, fun i _ _ h => by cases h⟩
theorem WkAt.step {ts : List En} {ns : List ByteArray} {j k : Nat} (hA : Asc ts) (hN : AscN ns) (hj : j < ns.length) (hall : ∀ e ∈ ts, e.path ∈ ns) (h : WkAt ts (ns.take j) k) : wk ts k ns[j] = atL ts ns[j] ∧ WkAt ts (ns.take (j + 1)) (nx ts k ns[j]) := by
  have hless : ∀ i, i < j → ∀ hi : i < ns.length, Op.bytesLess ns[i].toList ns[j].toList = true := fun i hij hi => List.pairwise_iff_getElem.1 hN i j hi hj hij
  have hnot : ns[j] ∉ ns.take j := fun hm => by
    obtain ⟨i, hi, he⟩ := List.getElem_of_mem hm
    rw [List.getElem_take] at he
    have hi' : i < j := by simp at hi; omega
    exact less_ne (hless i hi' (by omega)) he
  have htk : ns.take (j + 1) = ns.take j ++ [ns[j]] := List.take_succ_eq_append_getElem hj
  -- what is at or behind k is not below ns[j]
  have hge : ∀ i (hi : i < ts.length), k ≤ i → ts[i].path = ns[j] ∨ Op.bytesLess ns[j].toList ts[i].path.toList = true := fun i hi hk => by
    have hm := hall _ (List.getElem_mem hi)
    obtain ⟨m, hm1, hm2⟩ := List.getElem_of_mem hm
    rcases Nat.lt_trichotomy m j with h1 | h1 | h1
    · exfalso
      refine h.hi i hi hk ?_
      rw [← hm2]
      exact List.mem_take_iff_getElem.2 ⟨m, by omega, rfl⟩
    · subst h1; exact .inl hm2.symm
    · right
      rw [← hm2]
      exact List.pairwise_iff_getElem.1 hN j m hj hm1 h1
  by_cases hk : k < ts.length
  · have hg : ts[k]? = some ts[k] := List.getElem?_eq_getElem hk
    by_cases he : ts[k].path = ns[j]
    · have heb : (ts[k].path.toList == ns[j].toList) = true := eqb_iff.2 he
      refine ⟨?_, ?_⟩
      · unfold wk
        rw [hg]
        dsimp only
        rw [if_pos heb, ← he, at_mem hA (List.getElem_mem hk)]
      · unfold nx
        rw [hg]
        dsimp only
        rw [if_pos heb, htk]
        refine ⟨hk, fun i hi hik => ?_, fun i hi hik hm => ?_⟩
        · by_cases hik2 : i < k
          · exact List.mem_append.2 (.inl (h.lo i hi hik2))
          · obtain rfl : i = k := by omega
            exact List.mem_append.2 (.inr (by rw [he]; simp))
        · rcases List.mem_append.1 hm with hm | hm
          · exact h.hi i hi (by omega) hm
          · have := List.mem_singleton.1 hm
            rw [← he] at this
            exact less_ne (List.pairwise_iff_getElem.1 hA k i hk hi (by omega)) this.symm
    · have heb : (ts[k].path.toList == ns[j].toList) = false := by rw [← Bool.not_eq_true, eqb_iff]; exact he
      have hno : ∀ i (hi : i < ts.length), k ≤ i → ts[i].path ≠ ns[j] := fun i hi hik e => by
        rcases Nat.lt_or_eq_of_le hik with h1 | h1
        · rcases hge k hk (Nat.le_refl _) with h2 | h2
          · exact he h2
          · have h3 := List.pairwise_iff_getElem.1 hA k i hk hi h1
            rw [e] at h3
            exact less_ne (less_trans h2 h3) rfl
        · subst h1; exact he e
      refine ⟨?_, ?_⟩
      · unfold wk
        rw [hg]
        dsimp only
        rw [if_neg (by rw [heb]; simp)]
        rcases at_cases ts ns[j] with ⟨h1, _⟩ | ⟨x, hx, h1, _⟩
        · exact h1.symm
        · exfalso
          obtain ⟨i, hi, rfl⟩ := List.getElem_of_mem hx
          by_cases hik : k ≤ i
          · exact hno i hi hik h1
          · have := h.lo i hi (by omega)
            rw [h1] at this
            exact hnot this
      · unfold nx
        rw [hg]
        dsimp only
        rw [if_neg (by rw [heb]; simp), htk]
        refine ⟨h.le, fun i hi hik => List.mem_append.2 (.inl (h.lo i hi hik)), fun i hi hik hm => ?_⟩
        rcases List.mem_append.1 hm with hm | hm
        · exact h.hi i hi hik hm
        · exact hno i hi hik (List.mem_singleton.1 hm)
  · have hg : ts[k]? = none := List.getElem?_eq_none (by omega)
    refine ⟨?_, ?_⟩
    · unfold wk
      rw [hg]
      rcases at_cases ts ns[j] with ⟨h1, _⟩ | ⟨x, hx, h1, _⟩
      · exact h1.symm
      · exfalso
        obtain ⟨i, hi, rfl⟩ := List.getElem_of_mem hx
        have := h.lo i hi (by omega)
        rw [h1] at this
        exact hnot this
    · unfold nx
      rw [hg]
      dsimp only
      refine ⟨h.le, fun i hi hik => ?_, fun i hi hik => absurd hik (by omega)⟩
      rw [htk]
      exact List.mem_append.2 (.inl (h.lo i hi hik))

set_option maxHeartbeats 1000000 in
theorem walkOver_any (a : Option Addr) (n ca : Nat) (w : World) :
    Calls Tryz.prog 28 #[.agg #[.slice a n ca]] w fun e w' => e = .returned (.func (.func 56) #[] #[.pointer (some ⟨w.heap.size + 1, 0, none⟩), .pointer (some ⟨w.heap.size, 0, none⟩)]) ∧ w' = (w.alloc (.cells #[.slice a n ca] 25)).alloc (.cells #[.int .i64 0] 3) := by
  go_enter Tryz.func28, Tryz.ntmps28
  go_wp2
  go_ret
  exact ⟨rfl, rfl⟩

def WkPost (ts : List En) (k : Nat) (p : ByteArray) (nb : Nat) (w : World) (e : Ending) (w' : World) : Prop :=
  e = .returned (flV (wk ts k p)) ∧ w.grownBy w' (some nb) ∧ w'.cell? ⟨nb, 0, none⟩ = some (.int .i64 (nx ts k p)) ∧ w'.frozen? ⟨nb, 0, none⟩ = false

set_option maxRecDepth 100000 in
set_option maxHeartbeats 4000000 in
theorem walk1_any (a : Option Addr) (ca : Nat) (ts : List En) (k nb tb : Nat) (p : ByteArray) (w : World) (h0 : w.cell? ⟨nb, 0, none⟩ = some (.int .i64 k)) (h1 : w.frozen? ⟨nb, 0, none⟩ = false) (h2 : w.cell? ⟨tb, 0, none⟩ = some (.slice a ts.length ca)) (hes : ES w a ts) (hk : k ≤ ts.length) (hn : ts.length ≤ 1048576) (hz : ∀ e ∈ ts, isZ e = false) :
    Calls Tryz.prog 56 #[.string p, .pointer (some ⟨nb, 0, none⟩), .pointer (some ⟨tb, 0, none⟩)] w (WkPost ts k p nb w) := by
  have hba := below_oneD w (.cells #[.bool false, .string ⟨#[]⟩, .bool false] 51)
  have hlt : nb < w.heap.size := World.block_lt_of_cell? w ⟨nb, 0, none⟩ h0
  have c0 := cell_later hba h0
  have c1 : (w.alloc (.cells #[.bool false, .string ⟨#[]⟩, .bool false] 51)).frozen? ⟨nb, 0, none⟩ = false := (hba.frozen (p := ⟨nb, 0, none⟩) hlt).trans h1
  have c2 := cell_later hba h2
  have hes' := hes.below hba
  have r0 : (w.alloc (.cells #[.bool false, .string ⟨#[]⟩, .bool false] 51)).cell? ⟨w.heap.size, 0, none⟩ = some (.bool false) := by simp [go_sem]
  have r1 : (w.alloc (.cells #[.bool false, .string ⟨#[]⟩, .bool false] 51)).cell? ⟨w.heap.size, 1, none⟩ = some (.string ⟨#[]⟩) := by simp [go_sem]
  have r2 : (w.alloc (.cells #[.bool false, .string ⟨#[]⟩, .bool false] 51)).cell? ⟨w.heap.size, 2, none⟩ = some (.bool false) := by simp [go_sem]
  have rf : ∀ j, (w.alloc (.cells #[.bool false, .string ⟨#[]⟩, .bool false] 51)).frozen? ⟨w.heap.size, j, none⟩ = false := fun j => by simp [go_sem]
  have hsz : (w.alloc (.cells #[.bool false, .string ⟨#[]⟩, .bool false] 51)).heap.size = w.heap.size + 1 := by simp
  go_enter Tryz.func56, Tryz.ntmps56
  go_upto_region 1 with fail
  generalize w.alloc (.cells #[.bool false, .string ⟨#[]⟩, .bool false] 51) = W at *
  obtain ⟨b4, hb4⟩ : ∃ b4, b4 = w.heap.size := ⟨_, rfl⟩
  have HO : Keep (nb < b4 ∧ b4 = w.heap.size ∧ W.heap.size = w.heap.size + 1) := ⟨by omega⟩
  rw [← hb4] at r0 r1 r2 rf ⊢
  clear hb4 hsz hlt h0 h1 h2 hes
  have nt : ¬ nb = b4 := by have := HO.out; omega
  have nt2 : ¬ b4 = nb := by have := HO.out; omega
  have q : ∀ {Y : World} {i j : Nat} {v u : Value}, i ≠ j → Y.cell? ⟨b4, j, none⟩ = some u → (Y.setCell ⟨b4, i, none⟩ v).cell? ⟨b4, j, none⟩ = some u := fun hn hc => (World.cell?_setCell_other _ _ _ _ (fun e => hn (by injection e))).trans hc
  have hput : ∀ (X : World) (g : Fl) (m : Nat), w.grownBy X (some nb) → X.cell? ⟨nb, 0, none⟩ = some (.int .i64 m) → X.frozen? ⟨nb, 0, none⟩ = false → X.cell? ⟨b4, 0, none⟩ = some (.bool false) → X.cell? ⟨b4, 1, none⟩ = some (.string ⟨#[]⟩) → X.cell? ⟨b4, 2, none⟩ = some (.bool false) →
      ((((X.setCell ⟨b4, 0, none⟩ (.bool g.there)).setCell ⟨b4, 1, none⟩ (.string g.text)).setCell ⟨b4, 2, none⟩ (.bool g.runs)).cell? ⟨b4, 0, none⟩ = some (.bool g.there) ∧ (((X.setCell ⟨b4, 0, none⟩ (.bool g.there)).setCell ⟨b4, 1, none⟩ (.string g.text)).setCell ⟨b4, 2, none⟩ (.bool g.runs)).cell? ⟨b4, 1, none⟩ = some (.string g.text) ∧ (((X.setCell ⟨b4, 0, none⟩ (.bool g.there)).setCell ⟨b4, 1, none⟩ (.string g.text)).setCell ⟨b4, 2, none⟩ (.bool g.runs)).cell? ⟨b4, 2, none⟩ = some (.bool g.runs)) ∧
      (wk ts k p = g → nx ts k p = m → WkPost ts k p nb w (.returned (flV g)) (((X.setCell ⟨b4, 0, none⟩ (.bool g.there)).setCell ⟨b4, 1, none⟩ (.string g.text)).setCell ⟨b4, 2, none⟩ (.bool g.runs))) := fun X g m hX d0 d1 e0 e1 e2 => by
    refine ⟨⟨q (by omega) (q (by omega) (World.cell?_setCell_same _ _ _ e0)), q (by omega) (World.cell?_setCell_same _ _ _ (q (by omega) e1)), World.cell?_setCell_same _ _ _ (q (by omega) (q (by omega) e2))⟩, fun hw hx => ⟨by rw [hw], ?_, ?_, ?_⟩⟩
    · have hge : ∀ j, some b4 = some j → w.heap.size ≤ j := fun j e => by cases e; have := HO.out; omega
      exact gr_own (gr_own (gr_own hX (grown_set0 X b4 0 (.bool g.there)) hge) (grown_set0 _ b4 1 (.string g.text)) hge) (grown_set0 _ b4 2 (.bool g.runs)) hge
    · have ne : ∀ i, (⟨b4, i, none⟩ : Addr) ≠ ⟨nb, 0, none⟩ := fun i e => by injection e with e1; exact nt2 e1
      rw [World.cell?_setCell_other _ _ _ _ (ne _), World.cell?_setCell_other _ _ _ _ (ne _), World.cell?_setCell_other _ _ _ _ (ne _), hx]
      exact d0
    · rw [World.frozen?_setCell, World.frozen?_setCell, World.frozen?_setCell]
      exact d1
  have hgW : w.grownBy W (some nb) := gr_below hba
  by_cases hkn : k = ts.length
  · have hB : ((k : Int) == ts.length) = true := by simp; omega
    obtain ⟨⟨k0, k1, k2⟩, hpo⟩ := hput W noFl k hgW c0 c1 r0 r1 r2
    have HP : Keep _ := ⟨hpo (by unfold wk; rw [List.getElem?_eq_none (by omega)]) (by unfold nx; rw [List.getElem?_eq_none (by omega)])⟩
    simp only [noFl] at k0 k1 k2 HP
    clear hput hpo hgW hkn q
    go_wp2
    refine bodyPost_ret (v := flV noFl) ?_ rfl HP.out
    go_light
    simp [results, Tryz.results56, go_sem, flV, noFl, k0, k1, k2]
  · have hB : ((k : Int) == ts.length) = false := by simp; omega
    have hkl : k < ts.length := by omega
    have hkl' : (k : Int) < ts.length := by omega
    obtain ⟨b, off, rfl, hc⟩ := hes'.at hkl
    obtain ⟨x0, x1, x2⟩ := hc k hkl
    have hg : ts[k]? = some ts[k] := List.getElem?_eq_getElem hkl
    cases hq : (ts[k].path.toList == p.toList) with
    | false =>
      have hq2 : (ts[k].path.toList != p.toList) = true := by simpa using hq
      obtain ⟨⟨k0, k1, k2⟩, hpo⟩ := hput W noFl k hgW c0 c1 r0 r1 r2
      have HP : Keep _ := ⟨hpo (by unfold wk; rw [hg]; dsimp only; rw [if_neg (by rw [hq]; simp)]) (by unfold nx; rw [hg]; dsimp only; rw [if_neg (by rw [hq]; simp)])⟩
      simp only [noFl] at k0 k1 k2 HP
      clear hput hpo hgW hkn q hc hg hq2
      go_wp2
      refine bodyPost_ret (v := flV noFl) ?_ rfl HP.out
      go_light
      simp [results, Tryz.results56, go_sem, flV, noFl, k0, k1, k2]
    | true =>
      have hq2 : (ts[k].path.toList != p.toList) = false := by simpa using hq
      have hfe : fileE ts[k] = ⟨true, ts[k].text, ts[k].runs⟩ := by unfold fileE; rw [hz _ (List.getElem_mem hkl)]; rfl
      have hm := fileE_any ts[k] W
      rw [hfe] at hm
      dsimp only at hm
      go_wp2_with fail
      refine hm.mono ?_
      rintro e w2 ⟨rfl, hb2⟩
      have hb3 := below_oneD w2 (.cells #[.bool true, .string ts[k].text, .bool ts[k].runs] 51)
      have hb4 : Below W.heap.size W (w2.alloc (.cells #[.bool true, .string ts[k].text, .bool ts[k].runs] 51)) := hb2.trans (hb3.mono hb2.size)
      have hs2 := hb2.size
      have hsz3 : (w2.alloc (.cells #[.bool true, .string ts[k].text, .bool ts[k].runs] 51)).heap.size = w2.heap.size + 1 := by simp
      have y0 : (w2.alloc (.cells #[.bool true, .string ts[k].text, .bool ts[k].runs] 51)).cell? ⟨w2.heap.size, 0, none⟩ = some (.bool true) := by simp [go_sem]
      have y1 : (w2.alloc (.cells #[.bool true, .string ts[k].text, .bool ts[k].runs] 51)).cell? ⟨w2.heap.size, 1, none⟩ = some (.string ts[k].text) := by simp [go_sem]
      have y2 : (w2.alloc (.cells #[.bool true, .string ts[k].text, .bool ts[k].runs] 51)).cell? ⟨w2.heap.size, 2, none⟩ = some (.bool ts[k].runs) := by simp [go_sem]
      clear hc x0 x1 x2 hm
      go_upto_region 4 with fail
      generalize w2.alloc (.cells #[.bool true, .string ts[k].text, .bool ts[k].runs] 51) = w3 at *
      generalize w2.heap.size = b5 at *
      have HO2 : Keep (b4 < b5 ∧ nb < b5) := ⟨by have := HO.out; omega⟩
      have d0 := cell_later hb4 c0
      have d1 : w3.frozen? ⟨nb, 0, none⟩ = false := (hb4.frozen (p := ⟨nb, 0, none⟩) (by have := HO.out; show nb < _; omega)).trans c1
      have rf3 : ∀ j, w3.frozen? ⟨b4, j, none⟩ = false := fun j => (hb4.frozen (p := ⟨b4, j, none⟩) (by have := HO.out; show b4 < _; omega)).trans (rf j)
      have nn : ∀ (c i : Nat), c ≠ nb → (w3.setCell ⟨nb, 0, none⟩ (.int .i64 ((k : Int) + 1))).cell? ⟨c, i, none⟩ = w3.cell? ⟨c, i, none⟩ := fun c i hc => World.cell?_setCell_other _ _ _ _ (fun e => by injection e with e1; exact hc e1.symm)
      have hgX : w.grownBy (w3.setCell ⟨nb, 0, none⟩ (.int .i64 ((k : Int) + 1))) (some nb) := gr_trans (gr_trans hgW (gr_below hb4)) (grown_set0 w3 nb 0 _)
      obtain ⟨⟨k0, k1, k2⟩, hpo⟩ := hput (w3.setCell ⟨nb, 0, none⟩ (.int .i64 ((k : Int) + 1))) ⟨true, ts[k].text, ts[k].runs⟩ (k + 1) hgX (by rw [World.cell?_setCell_same _ _ _ d0]; rfl) ((World.frozen?_setCell _ _ _ _).trans d1) ((nn b4 0 nt2).trans (cell_later hb4 r0)) ((nn b4 1 nt2).trans (cell_later hb4 r1)) ((nn b4 2 nt2).trans (cell_later hb4 r2))
      have HP : Keep _ := ⟨hpo (by unfold wk; rw [hg]; dsimp only; rw [if_pos hq]) (by unfold nx; rw [hg]; dsimp only; rw [if_pos hq])⟩
      dsimp only at k0 k1 k2 HP
      have v0 := (nn b5 0 (by have := HO2.out; omega)).trans y0
      have v1 := (nn b5 1 (by have := HO2.out; omega)).trans y1
      have v2 := (nn b5 2 (by have := HO2.out; omega)).trans y2
      have p0 := (nn b4 0 nt2).trans (cell_later hb4 r0)
      have p1 := (nn b4 1 nt2).trans (cell_later hb4 r1)
      have p2 := (nn b4 2 nt2).trans (cell_later hb4 r2)
      have pf : ∀ j, (w3.setCell ⟨nb, 0, none⟩ (.int .i64 ((k : Int) + 1))).frozen? ⟨b4, j, none⟩ = false := fun j => (World.frozen?_setCell _ _ _ _).trans (rf3 j)
      have hwk : IntKind.i64.wrap ((k : Int) + 1) = (k : Int) + 1 := by rw [IntKind.wrap_i64]; omega
      have n5 : ¬ nb = b5 := by have := HO2.out; omega
      have n6 : ¬ b5 = nb := by have := HO2.out; omega
      have n7 : ¬ b4 = b5 := by have := HO2.out; omega
      have n8 : ¬ b5 = b4 := by have := HO2.out; omega
      clear hput hpo hgW hgX hkn q hq hg hb2 hb3 hb4 nn c0 c1 c2 r0 r1 r2 rf rf3 hba
      go_wp2
      refine bodyPost_ret (v := flV ⟨true, ts[k].text, ts[k].runs⟩) ?_ rfl HP.out
      go_light
      simp [results, Tryz.results56, go_sem, flV, k0, k1, k2]
end Go.Proofs.YtjiafjdjocmodaaGreat

namespace Go.Proofs
open Go.Shelf
def Tryz.laysSortS_ren : Go.Shelf.Ren := ⟨fun | 190 => 58 | 125 => 79 | 258 => 78 | 128 => 105 | 129 => 106 | 302 => 96 | 303 => 97 | 304 => 98 | 305 => 99 | 306 => 100 | 307 => 101 | 308 => 102 | 309 => 103 | 310 => 104 | 333 => 119 | 329 => 120 | 330 => 121 | 334 => 122 | 335 => 123 | 336 => 124 | 344 => 134 | n => n, fun | 31 => 28 | 9 => 9 | 3 => 3 | 46 => 106 | 0 => 0 | 51 => 139 | 53 => 141 | 4 => 4 | 183 => 132 | 182 => 131 | 131 => 136 | 5 => 5 | 218 => 162 | 222 => 166 | 228 => 175 | 229 => 176 | n => n, fun | n => n⟩
theorem Tryz.laysSortS : Go.Proofs.Lays.n190 Tryz.prog Tryz.laysSortS_ren := {
  mixed := by kernel_rfl
  f125 := Tryz.func79.trans (congrArg some (by kernel_rfl))
  f128 := Tryz.func105.trans (congrArg some (by kernel_rfl))
  f129 := Tryz.func106.trans (congrArg some (by kernel_rfl))
  f190 := Tryz.func58.trans (congrArg some (by kernel_rfl))
  f258 := Tryz.func78.trans (congrArg some (by kernel_rfl))
  f302 := Tryz.func96.trans (congrArg some (by kernel_rfl))
  f303 := Tryz.func97.trans (congrArg some (by kernel_rfl))
  f304 := Tryz.func98.trans (congrArg some (by kernel_rfl))
  f305 := Tryz.func99.trans (congrArg some (by kernel_rfl))
  f306 := Tryz.func100.trans (congrArg some (by kernel_rfl))
  f307 := Tryz.func101.trans (congrArg some (by kernel_rfl))
  f308 := Tryz.func102.trans (congrArg some (by kernel_rfl))
  f309 := Tryz.func103.trans (congrArg some (by kernel_rfl))
  f310 := Tryz.func104.trans (congrArg some (by kernel_rfl))
  f329 := Tryz.func120.trans (congrArg some (by kernel_rfl))
  f330 := Tryz.func121.trans (congrArg some (by kernel_rfl))
  f333 := Tryz.func119.trans (congrArg some (by kernel_rfl))
  f334 := Tryz.func122.trans (congrArg some (by kernel_rfl))
  f335 := Tryz.func123.trans (congrArg some (by kernel_rfl))
  f336 := Tryz.func124.trans (congrArg some (by kernel_rfl))
  f344 := Tryz.func134.trans (congrArg some (by kernel_rfl))
  t0 := Tryz.underlying0
  a0 := Tryz.isAgg0
  z0 := Tryz.sizeOf0
  v0 := Tryz.zeroValue0
  t3 := Tryz.underlying3
  a3 := Tryz.isAgg3
  z3 := Tryz.sizeOf3
  v3 := Tryz.zeroValue3
  t4 := Tryz.underlying4
  a4 := Tryz.isAgg4
  z4 := Tryz.sizeOf4
  v4 := Tryz.zeroValue4
  t5 := Tryz.underlying5
  a5 := Tryz.isAgg5
  z5 := Tryz.sizeOf5
  v5 := Tryz.zeroValue5
  t9 := Tryz.underlying9
  a9 := Tryz.isAgg9
  z9 := Tryz.sizeOf9
  v9 := Tryz.zeroValue9
  t31 := Tryz.underlying28
  a31 := Tryz.isAgg28
  z31 := Tryz.sizeOf28
  v31 := Tryz.zeroValue28
  t46 := Tryz.underlying106
  a46 := Tryz.isAgg106
  z46 := Tryz.sizeOf106
  v46 := Tryz.zeroValue106
  t51 := Tryz.underlying139
  a51 := Tryz.isAgg139
  z51 := Tryz.sizeOf139
  v51 := Tryz.zeroValue139
  t53 := Tryz.underlying141
  a53 := Tryz.isAgg141
  z53 := Tryz.sizeOf141
  v53 := Tryz.zeroValue141
  t131 := Tryz.underlying136
  a131 := Tryz.isAgg136
  z131 := Tryz.sizeOf136
  v131 := Tryz.zeroValue136
  t182 := Tryz.underlying131
  a182 := Tryz.isAgg131
  z182 := Tryz.sizeOf131
  v182 := Tryz.zeroValue131
  t183 := Tryz.underlying132
  a183 := Tryz.isAgg132
  z183 := Tryz.sizeOf132
  v183 := Tryz.zeroValue132
  t218 := Tryz.underlying162
  a218 := Tryz.isAgg162
  z218 := Tryz.sizeOf162
  v218 := Tryz.zeroValue162
  t222 := Tryz.underlying166
  a222 := Tryz.isAgg166
  z222 := Tryz.sizeOf166
  v222 := Tryz.zeroValue166
  t228 := Tryz.underlying175
  a228 := Tryz.isAgg175
  z228 := Tryz.sizeOf175
  v228 := Tryz.zeroValue175
  t229 := Tryz.underlying176
  a229 := Tryz.isAgg176
  z229 := Tryz.sizeOf176
  v229 := Tryz.zeroValue176 }
def Tryz.laysCompactS_ren : Go.Shelf.Ren := ⟨fun | 194 => 59 | n => n, fun | 31 => 28 | 9 => 9 | 3 => 3 | 4 => 4 | 0 => 0 | n => n, fun | n => n⟩
theorem Tryz.laysCompactS : Go.Proofs.Lays.n194 Tryz.prog Tryz.laysCompactS_ren := {
  mixed := by kernel_rfl
  f194 := Tryz.func59.trans (congrArg some (by kernel_rfl))
  t0 := Tryz.underlying0
  a0 := Tryz.isAgg0
  z0 := Tryz.sizeOf0
  v0 := Tryz.zeroValue0
  t3 := Tryz.underlying3
  a3 := Tryz.isAgg3
  z3 := Tryz.sizeOf3
  v3 := Tryz.zeroValue3
  t4 := Tryz.underlying4
  a4 := Tryz.isAgg4
  z4 := Tryz.sizeOf4
  v4 := Tryz.zeroValue4
  t9 := Tryz.underlying9
  a9 := Tryz.isAgg9
  z9 := Tryz.sizeOf9
  v9 := Tryz.zeroValue9
  t31 := Tryz.underlying28
  a31 := Tryz.isAgg28
  z31 := Tryz.sizeOf28
  v31 := Tryz.zeroValue28 }
end Go.Proofs

namespace Go.Proofs.YtjiafjdjocmodaaGreat
open Go.RowKit Go.Sort

section
variable {zs : List (List UInt8)}
theorem get_bang (i : Nat) (h : i < zs.length) : zs.toArray[i]! = zs[i] := by simp [h]
theorem compact_get {zs : List (List UInt8)} (h : zs.Pairwise fun a b => a ≤ b) : (Lib.compact zs).Pairwise fun a b => a < b := by
  unfold Lib.compact Lib.compactUpTo
  rw [List.pairwise_map]
  have hr : (List.range zs.length).Pairwise fun a b => a < b := List.pairwise_lt_range
  refine (List.Pairwise.filter _ hr).imp_of_mem fun {i j} hi hj hij => ?_
  obtain ⟨hi1, _⟩ := List.mem_filter.1 hi
  obtain ⟨hj1, hj2⟩ := List.mem_filter.1 hj
  have hil : i < zs.length := List.mem_range.1 hi1
  have hjl : j < zs.length := List.mem_range.1 hj1
  have hne : zs.toArray[j]! ≠ zs.toArray[j - 1]! := by
    have h0 : j = 0 ∨ zs.toArray[j]! ≠ zs.toArray[j - 1]! := of_decide_eq_true hj2
    rcases h0 with h0 | h0
    · omega
    · exact h0
  rw [get_bang j hjl, get_bang (j - 1) (by omega)] at hne
  rw [get_bang i hil, get_bang j hjl]
  have hle : ∀ a b (ha : a < zs.length) (hb : b < zs.length), a ≤ b → zs[a] ≤ zs[b] := fun a b ha hb hab => by
    rcases Nat.lt_or_eq_of_le hab with h1 | h1
    · exact List.pairwise_iff_getElem.1 h a b ha hb h1
    · subst h1; exact List.le_refl _
  refine Decidable.byContradiction fun hn => ?_
  have h1 : zs[j] ≤ zs[i] := List.not_lt.1 hn
  have h2 : zs[j] ≤ zs[j - 1] := List.le_trans h1 (hle i (j - 1) hil (by omega) (by omega))
  exact hne (List.le_antisymm h2 (hle (j - 1) j (by omega) hjl (by omega)))
theorem compact_mem {zs : List (List UInt8)} (z : List UInt8) : z ∈ Lib.compact zs ↔ z ∈ zs := by
  unfold Lib.compact Lib.compactUpTo
  rw [List.mem_map]
  constructor
  · rintro ⟨i, hi, rfl⟩
    have hl : i < zs.length := List.mem_range.1 (List.mem_filter.1 hi).1
    rw [get_bang i hl]
    exact List.getElem_mem hl
  · intro hz
    obtain ⟨i, hi, rfl⟩ := List.getElem_of_mem hz
    have key : ∀ n i (hi : i < zs.length), i ≤ n → ∃ j, j ∈ (List.range zs.length).filter (Lib.keeps zs.toArray) ∧ zs.toArray[j]! = zs[i] := by
      intro n
      induction n with
      | zero =>
        intro i hi hin
        obtain rfl : i = 0 := by omega
        exact ⟨0, List.mem_filter.2 ⟨List.mem_range.2 hi, by simp [Lib.keeps]⟩, get_bang 0 hi⟩
      | succ n ih =>
        intro i hi hin
        by_cases hk : Lib.keeps zs.toArray i = true
        · exact ⟨i, List.mem_filter.2 ⟨List.mem_range.2 hi, hk⟩, get_bang i hi⟩
        · have h0 : ¬ (i = 0 ∨ zs.toArray[i]! ≠ zs.toArray[i - 1]!) := fun h => hk (decide_eq_true h)
          have h1 : i ≠ 0 := fun e => h0 (.inl e)
          have h2 : zs.toArray[i]! = zs.toArray[i - 1]! := Decidable.byContradiction fun e => h0 (.inr e)
          rw [get_bang i hi, get_bang (i - 1) (by omega)] at h2
          obtain ⟨j, hj, hj2⟩ := ih (i - 1) (by omega) (by omega)
          exact ⟨j, hj, hj2.trans h2.symm⟩
    exact key i i hi (Nat.le_refl _)
theorem sorted_le (zs : List (List UInt8)) : (zs.mergeSort fun x y => decide (x ≤ y)).Pairwise fun a b => a ≤ b := by
  refine (List.pairwise_mergeSort (le := fun x y : List UInt8 => decide (x ≤ y)) ?_ ?_ zs).imp fun h => of_decide_eq_true h
  · intro a b c h1 h2
    exact decide_eq_true (List.le_trans (of_decide_eq_true h1) (of_decide_eq_true h2))
  · intro a b
    rcases List.le_total a b with h | h
    · simp [h]
    · simp [h]
end
/-- The texts of a list, in order, each once. -/
def uniq (ns : List ByteArray) : List ByteArray := (Lib.compact ((ns.map fun n => n.data.toList).mergeSort fun x y => decide (x ≤ y))).map lnB
theorem uniq_asc (ns : List ByteArray) : AscN (uniq ns) := by
  unfold AscN uniq
  rw [List.pairwise_map]
  refine (compact_get (sorted_le _)).imp fun {a b} h => ?_
  rw [Lib.toList_data, Lib.toList_data, lnB_list, lnB_list, Go.Proofs.bytesLess_eq]
  exact decide_eq_true h
theorem uniq_mem (ns : List ByteArray) (p : ByteArray) : p ∈ uniq ns ↔ p ∈ ns := by
  unfold uniq
  rw [List.mem_map]
  constructor
  · rintro ⟨z, hz, rfl⟩
    rw [compact_mem, (List.mergeSort_perm _ _).mem_iff, List.mem_map] at hz
    obtain ⟨n, hn, rfl⟩ := hz
    rw [lnB_data]
    exact hn
  · intro hp
    refine ⟨p.data.toList, ?_, lnB_data p⟩
    rw [compact_mem, (List.mergeSort_perm _ _).mem_iff, List.mem_map]
    exact ⟨p, hp, rfl⟩
theorem uniq_paths (bs xs ys : List En) : uniq ((bs ++ xs ++ ys).map En.path) = pathsL [bs, xs, ys] :=
  ascN_unique (uniq_asc _) (paths3 bs xs ys).1 fun p => by
    rw [uniq_mem, (paths3 bs xs ys).2, List.mem_map]
    constructor
    · rintro ⟨e, he, rfl⟩
      rcases List.mem_append.1 he with he | he
      · rcases List.mem_append.1 he with he | he
        · exact .inl ⟨e, he, rfl⟩
        · exact .inr (.inl ⟨e, he, rfl⟩)
      · exact .inr (.inr ⟨e, he, rfl⟩)
    · rintro (⟨e, he, rfl⟩ | ⟨e, he, rfl⟩ | ⟨e, he, rfl⟩)
      · exact ⟨e, by simp [he], rfl⟩
      · exact ⟨e, by simp [he], rfl⟩
      · exact ⟨e, by simp [he], rfl⟩
theorem enc_map (ns : List ByteArray) : ns.map Value.string = (ns.map fun n => n.data.toList).map encStr := by
  rw [List.map_map]
  refine List.map_congr_left fun n _ => ?_
  show Value.string n = encStr n.data.toList
  cases n
  simp [encStr]
theorem enc_back (zs : List (List UInt8)) : zs.map encStr = (zs.map lnB).map Value.string := by
  rw [List.map_map]
  refine List.map_congr_left fun z _ => ?_
  show encStr z = Value.string (lnB z)
  simp [encStr, lnB]
/-- slices.Sort of a row of texts that is owned. -/
theorem sortS_any (B g cap : Nat) (ns : List ByteArray) (w : World) (h : w.ownsRow B 9 1 (.slice (some ⟨g, 0, none⟩) ns.length cap) ns.length (ns.map Value.string)) (hn : ns.length ≤ 1000000) :
    Calls Tryz.prog 58 #[.slice (some ⟨g, 0, none⟩) ns.length cap] w fun e w' => e = .returned (.tuple #[]) ∧ w'.ownsRow B 9 1 (.slice (some ⟨g, 0, none⟩) ns.length cap) ns.length ((((ns.map fun n => n.data.toList).mergeSort fun x y => decide (x ≤ y)).map lnB).map Value.string) ∧ w.grownBy w' (some g) := by
  rw [enc_map] at h
  obtain ⟨zs, hzs⟩ : ∃ zs, zs = ns.map fun n => n.data.toList := ⟨_, rfl⟩
  have hl : zs.length = ns.length := by rw [hzs, List.length_map]
  rw [← hzs, ← hl] at h
  rw [← hzs, ← hl]
  obtain ⟨g', cap', hv, hbg, hgl, hncap, hcm, _, hH⟩ := Lib.holds_of_ownsRow h (by simp)
  injection hv with e1 _ e3
  injection e1 with e1
  injection e1 with e1
  subst e1
  subst e3
  refine calls_of_every_depth (fun D => (AnyS.slices_Sort_string_alone Tryz.laysSortS D g 0 cap zs w hH hgl (by omega)).mono ?_)
  rintro e w' ⟨rfl, n, os, rfl⟩
  refine ⟨rfl, ?_, grownBy_sorted _⟩
  rcases h.2 with ⟨h0, _⟩ | ⟨g', cap', cur, hv, hbase, hb, h1, h2, h3, h4⟩
  · cases h0
  · cases hv
    rw [← enc_back]
    exact ownsRow_sorted (n := n) (os := os) (ts := zs.mergeSort fun x y => decide (x ≤ y)) (List.length_mergeSort zs) hbase hb h1 h2 h3
/-- slices.Compact of it. -/
theorem compactS_any (B g cap : Nat) (zs : List (List UInt8)) (w : World) (h : w.ownsRow B 9 1 (.slice (some ⟨g, 0, none⟩) zs.length cap) zs.length ((zs.map lnB).map Value.string)) (hn : zs.length ≤ 1000000) :
    Calls Tryz.prog 59 #[.slice (some ⟨g, 0, none⟩) zs.length cap] w fun e w' => e = .returned (.slice (some ⟨g, 0, none⟩) (Lib.compact zs).length cap) ∧ w'.ownsRow B 9 1 (.slice (some ⟨g, 0, none⟩) (Lib.compact zs).length cap) (Lib.compact zs).length (((Lib.compact zs).map lnB).map Value.string) ∧ w.grownBy w' (some g) := by
  rw [← enc_back] at h
  obtain ⟨g', cap', hv, hbg, hgl, hncap, hcm, _, hH⟩ := Lib.holds_of_ownsRow h (by simp)
  injection hv with e1 _ e3
  injection e1 with e1
  injection e1 with e1
  subst e1
  subst e3
  refine calls_of_every_depth (fun D => (AnyS.slices_Compact_string_in Tryz.laysCompactS D g 0 cap zs w hH (by omega) hncap).mono ?_)
  rintro e w' ⟨rfl, q, rfl⟩
  have hle := Lib.compact_length_le zs
  refine ⟨rfl, ?_, ?_⟩
  · have hc := Lib.ownsRow_putRow (q := q) (k := (Lib.compact zs).length) (ys := Lib.compact zs ++ List.replicate (zs.length - (Lib.compact zs).length) []) h (by simp; omega) (by omega)
    rw [List.take_left] at hc
    rw [← enc_back]
    exact hc
  · refine ⟨rfl, rfl, rfl, by simp [putRow, mapBlock, Sort.ahead], fun k hk hne => ?_⟩
    have hgk : g ≠ k := fun e => hne (by rw [e])
    simp [putRow, mapBlock, Sort.ahead, Array.getElem?_modify, hgk]
end Go.Proofs.YtjiafjdjocmodaaGreat

namespace Go.Proofs.YtjiafjdjocmodaaGreat
open Go.RowKit

def pthsOf (xs : List (Option Addr × Nat × List En)) (k : Nat) : List ByteArray := ((tss xs).take k).flatten.map En.path
theorem pthsOf_succ {xs : List (Option Addr × Nat × List En)} {k : Nat} (h : k < xs.length) : pthsOf xs (k + 1) = pthsOf xs k ++ xs[k].2.2.map En.path := by
  unfold pthsOf
  rw [List.take_succ_eq_append_getElem (by simpa [tss] using h), List.flatten_append, List.map_append]
  simp [tss]
theorem nm_start (w : World) : NmR w (.slice none 0 0) [] w := ⟨⟨by simp, .inl ⟨rfl, rfl⟩⟩, Below.refl _ _⟩
theorem NmR.later {w : World} {v : Value} {us : List ByteArray} {W W' : World} (h : NmR w v us W) (hb : Below W.heap.size W W') : NmR w v us W' := ⟨owns_below h.row hb, h.bw.trans (hb.mono h.bw.size)⟩

set_option maxHeartbeats 1000000 in
theorem compact_none (cp : Nat) (w : World) : Calls Tryz.prog 59 #[.slice none 0 cp] w fun e w' => e = .returned (.slice none 0 cp) ∧ w' = w := by
  go_enter Tryz.func59, Tryz.ntmps59
  go_wp2
  go_ret
  exact ⟨rfl, rfl⟩
set_option maxRecDepth 100000 in
set_option maxHeartbeats 8000000 in
theorem allPaths_any (b off cap : Nat) (xs : List (Option Addr × Nat × List En)) (w : World) (h : TsAt w b off xs) (hx : xs.length ≤ 10) (hn : ∀ x ∈ xs, x.2.2.length ≤ 1000) :
    Calls Tryz.prog 29 #[.slice (some ⟨b, off, none⟩) xs.length cap] w (NamesPost (uniq (pthsOf xs xs.length)) w) := by
  obtain ⟨i0, hi, hz0, hz1, hz2⟩ := info_parts Tryz.infoStr
  go_enter Tryz.func29, Tryz.ntmps29
  go_wp2
  go_loopw [3, 10] (fun v i wr => ∃ k : Nat, i = .int .i64 k ∧ k ≤ xs.length ∧ NmR w v (pthsOf xs k) wr ∧ (pthsOf xs k).length ≤ 1000 * k) (fun _ i _ => xs.length - (intOf i).toNat)
  case atStart => exact ⟨0, rfl, Nat.zero_le _, by simpa [pthsOf] using nm_start w, by simp [pthsOf]⟩
  case round =>
    obtain ⟨k, rfl, hk, hR, hle⟩ := hrel
    by_cases hlt : k < xs.length
    · have hlt' : (k : Int) < xs.length := by omega
      have HP : Keep (pthsOf xs (k + 1) = pthsOf xs k ++ xs[k].2.2.map En.path) := ⟨pthsOf_succ hlt⟩
      obtain ⟨hc, _⟩ := (h.below hR.bw) k hlt
      have hE : ∀ W, Below w.heap.size w W → ES W xs[k].1 xs[k].2.2 := fun W hW => ((h.below hW) k hlt).2
      have hnk := hn _ (List.getElem_mem hlt)
      generalize xs[k] = x at *
      obtain ⟨ad, cp, ts⟩ := x
      dsimp only at HP hc hE hnk
      generalize pthsOf xs k = acc at *
      have HX : Keep (TsAt w b off xs ∧ ∀ x ∈ xs, x.2.2.length ≤ 1000) := ⟨⟨h, hn⟩⟩
      clear h hn
      have hba := below_oneD wr (.cells #[.slice ad ts.length cp] 25)
      have hR1 := hR.later hba
      have HE : Keep (∀ W, Below w.heap.size w W → ES W ad ts) := ⟨hE⟩
      clear hR hE hba
      go_wp2
      generalize wr.alloc (.cells #[.slice ad ts.length cp] 25) = w1 at *
      have HS1 : Keep (w.heap.size ≤ w1.heap.size) := ⟨hR1.bw.size⟩
      go_loopw [3, 17] (fun v i wq => ∃ m : Nat, i = .int .i64 m ∧ m ≤ ts.length ∧ NmR w v (acc ++ (ts.take m).map En.path) wq) (fun _ i _ => ts.length - (intOf i).toNat)
      case atStart => exact ⟨0, rfl, Nat.zero_le _, by simpa using hR1⟩
      case round =>
        clear hR1
        obtain ⟨m, rfl, hm, hR⟩ := hrel
        by_cases hml : m < ts.length
        · have hml' : (m : Int) < ts.length := by omega
          obtain ⟨b1, o1, rfl, hc1⟩ := (HE.out wr hR.bw).at hml
          obtain ⟨x0, x1, x2⟩ := hc1 m hml
          have HA : Keep (acc ++ (ts.take (m + 1)).map En.path = (acc ++ (ts.take m).map En.path) ++ [ts[m].path]) := ⟨by rw [List.take_succ_eq_append_getElem hml, List.map_append, ← List.append_assoc]; rfl⟩
          have hlen : (acc ++ (ts.take m).map En.path).length ≤ 20000 := by simp; omega
          have hb5 := below_oneD wr (.cells #[.string ts[m].path, .string ts[m].text, .bool ts[m].runs] 55)
          replace hR := hR.later hb5
          clear hc1
          generalize acc ++ (ts.take m).map En.path = us at *
          go_wp2_with (first | (at_builtin; refine wpList_append_own _ rfl _ _ 28 rfl w.heap.size 9 i0 _ 1 16 Tryz.underlying28 hi hz0 hz1 hz2 rfl (by decide) _ _ _ rfl (hR.row.alloc _) ⟨wr.heap.size + 1, 0, none⟩ 1 1 [.string ts[m].path] rfl rfl (by simpa using cell_one_new (wr.alloc (.cells #[.string ts[m].path, .string ts[m].text, .bool ts[m].runs] 55)) (.string ts[m].path) 9) (by simp [Value.oneCell']) (by unfold maxLen; omega) (by omega) (by have := hR.bw.size; simp at this ⊢; omega) ?_; intro v2 w2 ho2 hg2 _; have hR2 := hR.app (x := ts[m].path) hg2 ho2))
          go_roundw
          case rel => exact ⟨m + 1, by congr 1, hml, by rw [HA.out]; exact hR2⟩
          case measure => simp only [intOf]; omega
        · obtain rfl : m = ts.length := by omega
          rw [List.take_length] at hR
          go_wp2
          go_roundw
          case rel => exact ⟨k + 1, by congr 1, by omega, by rw [HP.out]; exact hR, by rw [HP.out]; simp; omega⟩
          case measure => simp only [intOf]; omega
    · obtain rfl : k = xs.length := by omega
      obtain ⟨ad, cp, rfl⟩ := owns_slice hR.row
      generalize pthsOf xs xs.length = ns at *
      cases ad with
      | none =>
        have h0 : ns = [] := by
          rcases hR.row.2 with ⟨h1, h2⟩ | ⟨g, c, cur, hv, _⟩
          · injection h1 with _ h3
            exact List.eq_nil_of_length_eq_zero h3
          · cases hv
        subst h0
        have hs : Calls Tryz.prog 58 #[.slice none 0 cp] wr fun e w' => e = .returned (.tuple #[]) ∧ w' = wr := calls_of_every_depth (fun D => AnyS.slices_Sort_string_none_alone Tryz.laysSortS D none cp wr)
        have hu : uniq [] = [] := List.eq_nil_iff_forall_not_mem.2 fun p hp => by rw [uniq_mem] at hp; cases hp
        go_wp2_with fail
        refine hs.mono ?_
        rintro e w2 ⟨rfl, rfl⟩
        go_wp2_with fail
        refine (compact_none cp _).mono ?_
        rintro e w3 ⟨rfl, rfl⟩
        have HR : Keep _ := ⟨hR⟩
        clear hR hs
        go_wp2
        go_ret
        exact ⟨none, cp, by rw [hu]; rfl, by rw [hu]; exact HR.out.row, HR.out.bw⟩
      | some x =>
        obtain ⟨g, rfl, hg1, hg2⟩ : ∃ g, x = ⟨g, 0, none⟩ ∧ w.heap.size ≤ g ∧ g < wr.heap.size := by
          rcases hR.row.2 with ⟨h1, _⟩ | ⟨g, c, cur, hv, hb1, hb2, _⟩
          · cases h1
          · cases hv
            exact ⟨g, rfl, hb1, (Array.getElem?_eq_some_iff.1 hb2).1⟩
        have hs := sortS_any w.heap.size g cp ns wr hR.row (by omega)
        go_wp2_with fail
        refine hs.mono ?_
        rintro e w2 ⟨rfl, hrow2, hg2'⟩
        have hl : ((ns.map fun n => n.data.toList).mergeSort fun x y => decide (x ≤ y)).length = ns.length := by rw [List.length_mergeSort, List.length_map]
        have hu : (Lib.compact ((ns.map fun n => n.data.toList).mergeSort fun x y => decide (x ≤ y))).map lnB = uniq ns := rfl
        have hul : (Lib.compact ((ns.map fun n => n.data.toList).mergeSort fun x y => decide (x ≤ y))).length = (uniq ns).length := by rw [← hu, List.length_map]
        have hb2 := hR.bw.grown hg2' hR.bw.size (fun j e => by cases e; exact hg1)
        generalize (ns.map fun n => n.data.toList).mergeSort (fun x y => decide (x ≤ y)) = zs at *
        rw [← hl] at hrow2
        have hc := compactS_any w.heap.size g cp zs w2 hrow2 (by omega)
        rw [hl] at hc
        clear hs hrow2 hg2'
        go_wp2_with fail
        refine hc.mono ?_
        rintro e w3 ⟨rfl, hrow3, hg3⟩
        have hb3 := hb2.grown hg3 hb2.size (fun j e => by cases e; exact hg1)
        rw [hu, hul] at hrow3
        rw [hul]
        clear hc hg3
        go_wp2
        go_ret
        exact ⟨some ⟨g, 0, none⟩, cp, rfl, hrow3, hb3⟩
end Go.Proofs.YtjiafjdjocmodaaGreat

namespace Go.Proofs.YtjiafjdjocmodaaGreat
open Go.RowKit

theorem any_takeE {gs : List En} {p : En → Bool} {k : Nat} (h : k < gs.length) : (gs.take (k + 1)).any p = ((gs.take k).any p || p gs[k]) := by
  rw [List.take_succ_eq_append_getElem h, List.any_append]
  simp
theorem any_atE {gs : List En} {p : En → Bool} {k : Nat} (h : k < gs.length) (hk : p gs[k] = true) : gs.any p = true := List.any_eq_true.2 ⟨_, List.getElem_mem h, hk⟩

set_option maxRecDepth 20000 in
set_option maxHeartbeats 2000000 in
theorem idxE_any (g : Nat) (lb : Array Value) (eg : ∀ args w, (callFunc g args).run Tryz.prog w = .ok (.enter g args) w) (p : En → Bool) (a : Option Addr) (c : Nat) (gs : List En) (w : World) (hgs : ES w a gs) (hn : gs.length ≤ 1000000)
    (hp : ∀ (W : World) x, x ∈ gs → Below w.heap.size w W → Calls Tryz.prog g (#[.agg #[.string x.path, .string x.text, .bool x.runs]] ++ lb) W fun e w' => e = .returned (.bool (p x)) ∧ Below w.heap.size w w') :
    Calls Tryz.prog 88 #[.slice a gs.length c, .func (.func g) #[] lb] w fun e w' => ∃ r : Int, e = .returned (.int .i64 r) ∧ decide (0 ≤ r) = gs.any p ∧ -1 ≤ r ∧ r ≤ gs.length ∧ Below w.heap.size w w' := by
  go_enter Tryz.func88, Tryz.ntmps88
  go_wp2
  go_loopw [8] (fun s8 wr => ∃ k : Nat, k ≤ gs.length ∧ s8 = .int .i64 (k : Int) ∧ Keep ((gs.take k).any p = false) ∧ Below w.heap.size w wr) (fun s8 _ => gs.length - (intOf s8).toNat)
  case atStart => exact ⟨0, Nat.zero_le _, rfl, ⟨rfl⟩, Below.refl _ _⟩
  case round =>
    obtain ⟨k, hk, rfl, HA, hB⟩ := hrel
    by_cases hlt : k < gs.length
    · have hlt' : (k : Int) < gs.length := by omega
      obtain ⟨b, off, rfl, hc⟩ := hgs.at hlt
      have y0 := cell_later hB (hc k hlt).1
      have y1 := cell_later hB (hc k hlt).2.1
      have y2 := cell_later hB (hc k hlt).2.2
      have hcall := hp wr gs[k] (List.getElem_mem hlt) hB
      have HT := any_takeE (p := p) hlt
      have HA2 : p gs[k] = true → gs.any p = true := any_atE hlt
      obtain ⟨x, hx⟩ : ∃ x, gs[k] = x := ⟨_, rfl⟩
      rw [hx] at y0 y1 y2 hcall HT HA2
      rw [HA.out, Bool.false_or] at HT
      clear hp hc hx
      cases hq : p x with
      | true =>
        rw [hq] at hcall
        have HA3 : Keep (gs.any p = true) := ⟨HA2 hq⟩
        clear HT HA2 hq
        go_wp2_with (go_at_fn g; refine hcall.mono ?_; rintro e w' ⟨rfl, hb'⟩)
        go_ret
        exact ⟨k, rfl, by rw [HA3.out]; simp, by omega, by omega, hb'⟩
      | false =>
        rw [hq] at hcall HT
        have HA3 : Keep ((gs.take (k + 1)).any p = false) := ⟨HT⟩
        clear HT HA2 hq
        go_wp2_with (go_at_fn g; refine hcall.mono ?_; rintro e w' ⟨rfl, hb'⟩)
        go_roundw
        case rel => exact ⟨k + 1, hlt, by go_num, HA3, hb'⟩
        case measure => simp only [intOf]; omega
    · obtain rfl : k = gs.length := by omega
      have HA3 : Keep (gs.any p = false) := ⟨by have := HA.out; rwa [List.take_length] at this⟩
      clear HA hp
      go_wp2
      go_ret
      exact ⟨-1, rfl, by rw [HA3.out]; rfl, by omega, by omega, hB⟩

set_option maxRecDepth 20000 in
set_option maxHeartbeats 2000000 in
theorem contE_any (g : Nat) (lb : Array Value) (eg : ∀ args w, (callFunc g args).run Tryz.prog w = .ok (.enter g args) w) (p : En → Bool) (a : Option Addr) (c : Nat) (gs : List En) (w : World) (hgs : ES w a gs) (hn : gs.length ≤ 1000000)
    (hp : ∀ (W : World) x, x ∈ gs → Below w.heap.size w W → Calls Tryz.prog g (#[.agg #[.string x.path, .string x.text, .bool x.runs]] ++ lb) W fun e w' => e = .returned (.bool (p x)) ∧ Below w.heap.size w w') :
    Calls Tryz.prog 66 #[.slice a gs.length c, .func (.func g) #[] lb] w fun e w' => e = .returned (.bool (gs.any p)) ∧ Below w.heap.size w w' := by
  have ci := idxE_any g lb eg p a c gs w hgs hn hp
  go_enter Tryz.func66, Tryz.ntmps66
  go_wp2_with fail
  refine ci.mono ?_
  rintro e w1 ⟨r, rfl, hr, h1, h2, hb⟩
  have HR : Keep (decide (0 ≤ r) = gs.any p) := ⟨hr⟩
  clear hr ci hp
  go_wp2
  go_ret
  exact ⟨by rw [← HR.out]; rfl, hb⟩
end Go.Proofs.YtjiafjdjocmodaaGreat

namespace Go.Proofs
open Go.Shelf
def Tryz.laysPrefix_ren : Go.Shelf.Ren := ⟨fun | 99 => 65 | 206 => 87 | n => n, fun | 9 => 9 | 4 => 4 | 3 => 3 | n => n, fun | n => n⟩
theorem Tryz.laysPrefix : Go.Proofs.Lays.n99 Tryz.prog Tryz.laysPrefix_ren := {
  mixed := by kernel_rfl
  f99 := Tryz.func65.trans (congrArg some (by kernel_rfl))
  f206 := Tryz.func87.trans (congrArg some (by kernel_rfl))
  t3 := Tryz.underlying3
  a3 := Tryz.isAgg3
  z3 := Tryz.sizeOf3
  v3 := Tryz.zeroValue3
  t4 := Tryz.underlying4
  a4 := Tryz.isAgg4
  z4 := Tryz.sizeOf4
  v4 := Tryz.zeroValue4
  t9 := Tryz.underlying9
  a9 := Tryz.isAgg9
  z9 := Tryz.sizeOf9
  v9 := Tryz.zeroValue9 }
end Go.Proofs
namespace Go.Proofs.YtjiafjdjocmodaaGreat
open Go.RowKit

theorem hasPre_any (s p : ByteArray) (w : World) :
    Calls Tryz.prog 65 #[.string s, .string p] w fun e w' => e = .returned (.bool (p.data.toList.isPrefixOf s.data.toList)) ∧ w' = w := Any.strings_HasPrefix Tryz.laysPrefix s p w

set_option maxHeartbeats 2000000 in
theorem below1_any (eb : Nat) (d x : En) (w : World) (h0 : w.cell? ⟨eb, 0, none⟩ = some (.string d.path)) (hd : d.path.size ≤ 1048576) :
    Calls Tryz.prog 64 #[.agg #[.string x.path, .string x.text, .bool x.runs], .pointer (some ⟨eb, 0, none⟩)] w fun e w' => e = .returned (.bool (beginsB d.path x.path)) ∧ Below w.heap.size w w' := by
  have hba := below_oneD w (.cells #[.string x.path, .string x.text, .bool x.runs] 55)
  have c0 := cell_later hba h0
  have hcI : ¬ 9223372036854775807 < d.path.size + 1 := by omega
  have hm := hasPre_any x.path (d.path ++ ⟨#[47]⟩) (w.alloc (.cells #[.string x.path, .string x.text, .bool x.runs] 55))
  have he : (d.path ++ ⟨#[47]⟩).data.toList = d.path.data.toList ++ [47] := by simp
  rw [he] at hm
  go_enter Tryz.func64, Tryz.ntmps64
  go_wp2_with fail
  refine hm.mono ?_
  rintro e w' ⟨rfl, rfl⟩
  go_wp2
  go_ret
  exact ⟨rfl, hba⟩
end Go.Proofs.YtjiafjdjocmodaaGreat

namespace Go.Proofs.YtjiafjdjocmodaaGreat
open Go.RowKit

set_option maxRecDepth 100000 in
set_option maxHeartbeats 4000000 in
theorem kids_any (ad : Option Addr) (cp : Nat) (us : List En) (w : World) (hes : ES w ad us) (hn : us.length ≤ 100000) (hz : ∀ e ∈ us, e.path.size ≤ 1048576) :
    Calls Tryz.prog 33 #[.agg #[.slice ad us.length cp]] w (NamesPost (if us.length ≤ 100 then kidsM us else []) w) := by
  obtain ⟨i0, hi, hz0, hz1, hz2⟩ := info_parts Tryz.infoStr
  have hba := below_oneD w (.cells #[.slice ad us.length cp] 25)
  have c0 : (w.alloc (.cells #[.slice ad us.length cp] 25)).cell? ⟨w.heap.size, 0, none⟩ = some (.slice ad us.length cp) := by simp
  have hE := hes.below hba
  have hR0 := (nm_start w).later hba
  go_enter Tryz.func33, Tryz.ntmps33
  by_cases hbig : us.length ≤ 100
  · rw [if_pos hbig]
    have hb' : ¬ (100 : Int) < us.length := by omega
    go_wp2
    generalize w.alloc (.cells #[.slice ad us.length cp] 25) = W at *
    go_loopw [3, 14] (fun v i wr => ∃ k : Nat, i = .int .i64 k ∧ k ≤ us.length ∧ NmR W v (kidsAt us k) wr) (fun _ i _ => us.length - (intOf i).toNat)
    case atStart => exact ⟨0, rfl, Nat.zero_le _, by simpa [kidsAt] using nm_start W⟩
    case round =>
      obtain ⟨k, rfl, hk, hR⟩ := hrel
      have t0 := cell_later hR.bw c0
      by_cases hlt : k < us.length
      · have hlt' : (k : Int) < us.length := by omega
        have HA := kidsAt_succ hlt
        obtain ⟨b1, o1, rfl, hc1⟩ := (hE.below hR.bw).at hlt
        obtain ⟨x0, x1, x2⟩ := hc1 k hlt
        have hba := below_oneD wr (.cells #[.string us[k].path, .string us[k].text, .bool us[k].runs] 55)
        have e0 : (wr.alloc (.cells #[.string us[k].path, .string us[k].text, .bool us[k].runs] 55)).cell? ⟨wr.heap.size, 0, none⟩ = some (.string us[k].path) := by simp
        have t1 := cell_later hba t0
        have hcall := contE_any 64 #[.pointer (some ⟨wr.heap.size, 0, none⟩)] (enters_of Tryz.func64 (by kernel_rfl) rfl) (fun x => beginsB us[k].path x.path) _ cp us _ ((hE.below hR.bw).below hba) (by omega) (fun W' x hx hb => (below1_any wr.heap.size us[k] x W' (cell_later hb e0) (hz _ (List.getElem_mem hlt))).mono fun e w' ⟨h1, h2⟩ => ⟨h1, hb.trans (h2.mono hb.size)⟩)
        have hlen := kidsAt_len us k
        replace hR := hR.later hba
        have HH : Keep (∀ e ∈ us, e.path.size ≤ 1048576) := ⟨hz⟩
        clear hc1 hz hba
        generalize kidsAt us k = acc at *
        obtain ⟨pk, hpk⟩ : ∃ pk, pk = us[k].path := ⟨_, rfl⟩
        obtain ⟨q, hq⟩ : ∃ q, q = us.any (fun x => beginsB us[k].path x.path) := ⟨_, rfl⟩
        rw [← hq] at hcall HA
        rw [← hpk] at HA
        have HKA : Keep _ := ⟨HA⟩
        clear HA hq
        go_wp2_with fail
        refine hcall.mono ?_
        rintro e w2 ⟨rfl, hb2⟩
        replace hR := hR.later hb2
        have e1 := cell_later hb2 e0
        rw [← hpk] at e1
        clear hcall e0 t0 t1 x0 x1 x2 hb2 hpk
        cases q with
        | false =>
          go_wp2
          go_roundw
          case rel => exact ⟨k + 1, by congr 1, hlt, by rw [HKA.out]; simpa using hR⟩
          case measure => simp only [intOf]; omega
        | true =>
          go_wp2_with (first | (at_builtin; refine wpList_append_own _ rfl _ _ 28 rfl W.heap.size 9 i0 _ 1 16 Tryz.underlying28 hi hz0 hz1 hz2 rfl (by decide) _ _ _ rfl (hR.row.alloc _) ⟨w2.heap.size, 0, none⟩ 1 1 [.string pk] rfl rfl (by simpa using cell_one_new w2 (.string pk) 9) (by simp [Value.oneCell']) (by unfold maxLen; omega) (by omega) (by have := hR.bw.size; simp; omega) ?_; intro v2 w3 ho2 hg2 _; have hR2 := hR.app (x := pk) hg2 ho2))
          go_roundw
          case rel => exact ⟨k + 1, by congr 1, hlt, by rw [HKA.out]; simpa using hR2⟩
          case measure => simp only [intOf]; omega
      · obtain rfl : k = us.length := by omega
        have HK : Keep (kidsAt us us.length = kidsM us) := ⟨by unfold kidsAt kidsM; rw [List.take_length]⟩
        rw [HK.out] at hR
        obtain ⟨ad3, cp3, rfl⟩ := owns_slice hR.row
        go_wp2
        go_ret
        exact ⟨ad3, cp3, rfl, ⟨hR.row.1, by
          rcases hR.row.2 with h' | ⟨g, cap', cur, hv, k1, k2⟩
          · exact .inl h'
          · exact .inr ⟨g, cap', cur, hv, Nat.le_trans hba.size k1, k2⟩⟩, hba.trans (hR.bw.mono hba.size)⟩
  · rw [if_neg hbig]
    have hb' : (100 : Int) < us.length := by omega
    go_wp2
    go_ret
    exact ⟨none, 0, rfl, hR0.row, hR0.bw⟩
end Go.Proofs.YtjiafjdjocmodaaGreat

namespace Go.Proofs.YtjiafjdjocmodaaGreat
open Go.RowKit

theorem path_ne0 {s : ByteArray} (h : pathOk pathB s = true) : (s.toList == ([] : List UInt8)) = false := by
  rw [Bool.eq_false_iff]
  intro e
  have e1 : s = ⟨#[]⟩ := WideShapes.bytes_inj (by rw [← Lib.toList_data, (by simpa using e : s.toList = [])])
  subst e1
  revert h
  decide
theorem valid_enF {ts : List En} (h : ValidTs ts) {e : En} (he : e ∈ ts) : enOk e = true := by
  obtain ⟨i, hi, rfl⟩ := List.getElem_of_mem he
  obtain ⟨_, h1, _⟩ := h.2 i hi
  exact h1
theorem valid_path {ts : List En} (h : ValidTs ts) {e : En} (he : e ∈ ts) : (e.path.toList == ([] : List UInt8)) = false := by
  have h1 := valid_enF h he
  simp only [enOk, Bool.and_eq_true] at h1
  exact path_ne0 h1.1
theorem fileE_zero : fileE zeroE = noFl := by
  unfold fileE zeroE noFl
  have : isZ ⟨⟨#[]⟩, ⟨#[]⟩, false⟩ = true := by simp [isZ]
  rw [this]
  rfl
theorem fileE_some {e : En} (h : (e.path.toList == ([] : List UInt8)) = false) : fileE e = ⟨true, e.text, e.runs⟩ := by
  unfold fileE isZ
  rw [h]
  rfl
theorem fileE_at {ts : List En} (h : ValidTs ts) (p : ByteArray) : fileE ((fnd En.path ts p).getD zeroE) = atL ts p := by
  unfold atL
  show _ = match fnd En.path ts p with | some e => (⟨true, e.text, e.runs⟩ : Fl) | none => noFl
  cases hf : fnd En.path ts p with
  | none => exact fileE_zero
  | some e => exact fileE_some (valid_path h (fnd_some hf).1)
end Go.Proofs.YtjiafjdjocmodaaGreat

namespace Go.Proofs.YtjiafjdjocmodaaGreat
open Go.RowKit

set_option maxHeartbeats 1000000 in
theorem isEntry_any (e : En) (hs : e.path.size ≤ 1099511627776) (w : World) :
    Calls Tryz.prog 76 #[.agg #[.string e.path, .string e.text, .bool e.runs]] w fun x w' => x = .returned (.bool (enOk e)) ∧ Below w.heap.size w w' := by
  have hal : Below w.heap.size w (w.alloc (.cells #[.string e.path, .string e.text, .bool e.runs] 55)) := (Below.refl _ _).alloc (Nat.le_refl _) _
  cases hp : pathOk pathB e.path with
  | false =>
    go_enter Tryz.func76, Tryz.ntmps76
    go_wp2_with fail
    refine (implPath_any e.path hs _).mono ?_
    rintro x w1 ⟨rfl, hb⟩
    rw [hp]
    go_wp2
    go_ret
    exact ⟨retB (by simp [enOk, hp]), hal.trans (hb.mono hal.size)⟩
  | true =>
    go_enter Tryz.func76, Tryz.ntmps76
    go_wp2_with fail
    refine (implPath_any e.path hs _).mono ?_
    rintro x w1 ⟨rfl, hb⟩
    rw [hp]
    have x1 := hb.cell (p := ⟨w.heap.size, 1, none⟩) (by simp)
    simp at x1
    go_wp2
    go_ret
    refine ⟨retB ?_, hal.trans (hb.mono hal.size)⟩
    have : ((e.text.size : Int) ≤ 1500) ↔ e.text.size ≤ 1500 := by omega
    simp [enOk, hp, this]

theorem tree_new (w : World) : TreeM w.heap.size 0 ((w.alloc (.map #[] 0)).alloc (.cells #[.bool false, .string ⟨#[]⟩, .bool false, .map (some w.heap.size)] 128)) (fun q => if q = [] then some (w.heap.size + 1) else none) (fun _ => w.heap.size) (fun _ => none) := by
  refine ⟨fun p b hb => ?_, fun p q b hp hq => ?_, fun p q hp hq _ => ?_, fun p x h => ?_, by simp⟩
  · by_cases e : p = []
    · subst e
      simp at hb
      subst hb
      refine ⟨?_, by omega, Nat.le_refl _, ?_⟩
      · have := World.alloc_heap_new (w.alloc (.map #[] 0)) (nodeObj none w.heap.size)
        rw [World.size_alloc] at this
        exact this
      · have hm : (w.alloc (.map #[] 0)).ownsMap Tryz.prog 9 ptrR w.heap.size 0 (.map []) := World.ownsMap_made _ _ _ _
        obtain ⟨es, cl, m1, m2⟩ := hm
        refine ⟨0, .map [], ⟨es, cl, (Below.heap_alloc _ _ _ (by simp)).trans m1, m2⟩, Nat.le_refl _, fun x _ => ?_, ⟨fun _ x => by simp, fun _ => rfl⟩, fun y hy => by rw [Maps.has_eq] at hy; simp at hy⟩
        simp
        rfl
    · simp [e] at hb
  · by_cases e1 : p = [] <;> by_cases e2 : q = [] <;> simp [e1, e2] at hp hq ⊢
  · by_cases e1 : p = [] <;> by_cases e2 : q = [] <;> simp [e1, e2] at hp hq ⊢
  · simp at h

theorem path_pos {p : Int → Bool} {s : ByteArray} (h : pathOk p s = true) : 0 < s.size := by
  simp only [pathOk, Bool.and_eq_true] at h
  have h2 := h.2
  rw [partsB_cut] at h2
  simp only [List.all_cons, Bool.and_eq_true] at h2
  have h3 := h2.1
  simp only [partOk, Bool.and_eq_true, decide_eq_true_eq] at h3
  have := cutHead_size s
  omega

/-- What grow answers. -/
def GrowPost (ts : List En) (w : World) (e : Ending) (w' : World) : Prop :=
  Below w.heap.size w w' ∧
  ((ValidTs ts ∧ ∃ root, e = .returned (.tuple #[.pointer (some ⟨root, 0, none⟩), .bool true]) ∧ ∃ lo N β μ φ, w.heap.size ≤ lo ∧ N ≤ 1000 ∧ TreeM lo N w' β μ φ ∧ β [] = some root ∧ Shape ts β φ) ∨
   (¬ ValidTs ts ∧ e = .returned (.tuple #[.pointer none, .bool false])))

theorem parts6 {e : En} (h : enOk e = true) : (partsB e.path).length ≤ 6 ∧ e.path.size ≤ 126 := by
  simp only [enOk, Bool.and_eq_true] at h
  refine ⟨?_, pathOk_size h.1⟩
  have := h.1
  simp only [pathOk, Bool.and_eq_true, decide_eq_true_eq] at this
  exact this.1

set_option maxRecDepth 100000 in
set_option maxHeartbeats 4000000 in
theorem grow_any (a : Option Addr) (cap : Nat) (ts : List En) (w : World) (hts : ES w a ts) (hn : ts.length ≤ 1048576) (hz : ∀ e ∈ ts, e.path.size ≤ 1048576) :
    Calls Tryz.prog 55 #[.agg #[.slice a ts.length cap]] w fun e w' => GrowPost ts w e w' := by
  by_cases h100 : (100 : Int) < ts.length
  · go_enter Tryz.func55, Tryz.ntmps55
    go_wp2
    go_ret2
    exact ⟨(Below.refl _ _).alloc (Nat.le_refl _) _, .inr ⟨fun h => by have := h.1; omega, rfl⟩⟩
  have hbT : Below w.heap.size w (w.alloc (.cells #[.slice a ts.length cap] 25)) := (Below.refl _ _).alloc (Nat.le_refl _) _
  have htT := hts.below hbT
  have hcT : (w.alloc (.cells #[.slice a ts.length cap] 25)).cell? ⟨w.heap.size, 0, none⟩ = some (.slice a ts.length cap) := by simp
  have hsT : (w.alloc (.cells #[.slice a ts.length cap] 25)).heap.size = w.heap.size + 1 := by simp
  go_enter Tryz.func55, Tryz.ntmps55
  go_wp2_with fail
  have hnew := tree_new (w.alloc (.cells #[.slice a ts.length cap] 25))
  have hbN : Below (w.heap.size + 1) (w.alloc (.cells #[.slice a ts.length cap] 25)) (((w.alloc (.cells #[.slice a ts.length cap] 25)).alloc (.map #[] 0)).alloc (.cells #[.bool false, .string ⟨#[]⟩, .bool false, .map (some (w.heap.size + 1))] 128)) := ((Below.refl _ _).alloc (by simp) _).alloc (by simp) _
  rw [hsT] at hnew
  refine (newNode_any _).mono ?_
  rintro e w1 ⟨rfl, rfl⟩
  go_wp2
  have hwf : w.heap.size < w.heap.size + 1 := by omega
  obtain ⟨L, hL⟩ : ∃ L, L = w.heap.size + 1 := ⟨_, rfl⟩
  rw [← hL] at hnew hbN hsT hwf ⊢
  have HL : Keep (L = w.heap.size + 1) := ⟨hL⟩
  clear hL
  generalize hwN : ((w.alloc (.cells #[.slice a ts.length cap] 25)).alloc (.map #[] 0)).alloc (.cells #[.bool false, .string ⟨#[]⟩, .bool false, .map (some L)] 128) = Wn at *
  generalize hwT : w.alloc (.cells #[.slice a ts.length cap] 25) = wT at *
  have HS : Keep (wT.heap.size = L) := ⟨hsT⟩
  have hLe : wT.heap.size ≤ L := by omega
  have hLg : L ≤ wT.heap.size := by omega
  clear hsT hwN hwT
  have hsh : Shape (ts.take 0) (fun q => if q = [] then some (L + 1) else none) (fun _ => none) := Shape.start (fun q => by by_cases e : q = [] <;> simp [e]) (fun _ => rfl)
  go_loopw [15] (fun i wr => ∃ (k N : Nat) (β : Way → Option Nat) (μ : Way → Nat) (φ : Way → Option (ByteArray × Bool)), i = .int .i64 k ∧ k ≤ ts.length ∧ TreeM L N wr β μ φ ∧ N ≤ 6 * k ∧ β [] = some (L + 1) ∧ Shape (ts.take k) β φ ∧ Keep (∀ i, i < k → OkAt ts i) ∧ Below L wT wr) (fun i _ => ts.length - (intOf i).toNat)
  case atStart => exact ⟨0, 0, _, _, _, rfl, Nat.zero_le _, hnew, Nat.le_refl _, by simp, hsh, ⟨fun i hi => by omega⟩, hbN⟩
  case round =>
    clear hnew hbN hsh
    obtain ⟨k, N, β, μ, φ, rfl, hk, hT, hN, hroot, hS, hok, hB⟩ := hrel
    have hBT : Below wT.heap.size wT wr := HS.out ▸ hB
    have hE := htT.below hBT
    have hcT' := (hB.cell (p := ⟨w.heap.size, 0, none⟩) hwf).trans hcT
    have hBw := hbT.trans (hBT.mono hbT.size)
    by_cases hlt : k < ts.length
    · have hlt' : (k : Int) < ts.length := by omega
      obtain ⟨b, off, rfl, hc⟩ := hE.at hlt
      obtain ⟨x0, x1, x2⟩ := hc k hlt
      have hals : Below wr.heap.size wr (wr.alloc (.cells #[.string ts[k].path, .string ts[k].text, .bool ts[k].runs] 55)) := (Below.refl _ _).alloc (Nat.le_refl _) _
      have hcT2 := cell_later hals hcT'
      have hT2 := hT.below hals
      have hBw2 := hBw.trans (hals.mono hBw.size)
      have hBL2 := hB.alloc (Nat.le_trans hLg hBT.size) (.cells #[.string ts[k].path, .string ts[k].text, .bool ts[k].runs] 55)
      have hzk := hz ts[k] (List.getElem_mem hlt)
      have hprev : ∀ j (hj : j < ts.length), j + 1 = k → (wr.alloc (.cells #[.string ts[k].path, .string ts[k].text, .bool ts[k].runs] 55)).cell? ⟨b, off + j * 3, none⟩ = some (.string ts[j].path) := fun j hj _ => cell_later hals (hc j hj).1
      have hbad : ¬ OkAt ts k → ¬ ValidTs ts := fun h1 h2 => h1 (h2.2 k hlt)
      clear hc hE htT hts
      have hbnd : N ≤ 600 := by omega
      go_upto_region 7 with fail
      go_cut [33] (fun v wx => ∃ bl : Bool, v = .bool bl ∧ (bl = false ↔ ∀ j, j + 1 = k → ∀ hj : j < ts.length, Op.bytesLess ts[j].path.toList ts[k].path.toList = true) ∧ ∃ n, wx = (wr.alloc (.cells #[.string ts[k].path, .string ts[k].text, .bool ts[k].runs] 55)).drewN n)
      case first =>
        by_cases hk0 : k = 0
        · have hkd : decide (0 < k) = false := by simp [hk0]
          go_quiet (fail)
          go_wp2_with fail
          go_meet
          case rel => exact ⟨false, rfl, ⟨fun _ j hj => by omega, fun _ => rfl⟩, _, rfl⟩
        · obtain ⟨j, rfl⟩ : ∃ j, k = j + 1 := ⟨k - 1, by omega⟩
          have hp := hprev j (by omega) rfl
          have hk0' : (0 : Int) < ((j + 1 : Nat) : Int) := by omega
          have hkd : decide (0 < j + 1) = true := by simp
          have htot := less_total ts[j].path.toList ts[j + 1].path.toList
          have HT : Keep ((!(Op.bytesLess ts[j].path.toList ts[j + 1].path.toList)) = (Op.bytesLess ts[j + 1].path.toList ts[j].path.toList || ts[j + 1].path.toList == ts[j].path.toList)) := ⟨htot⟩
          clear htot
          go_quiet (fail)
          go_wp2_with fail
          go_meet
          case rel =>
            refine ⟨_, rfl, ?_, _, rfl⟩
            rw [← HT.out]
            constructor
            · intro h j' hj' hl
              obtain rfl : j' = j := by omega
              simpa using h
            · intro h
              have := h j rfl (by omega)
              rw [this]; rfl
      case rest =>
        obtain ⟨bl, rfl, hbl, nq, rfl⟩ := hcut
        have HB : Keep (bl = false ↔ ∀ j, j + 1 = k → ∀ hj : j < ts.length, Op.bytesLess ts[j].path.toList ts[k].path.toList = true) := ⟨hbl⟩
        clear hbl hprev
        have y0 : ((wr.alloc (.cells #[.string ts[k].path, .string ts[k].text, .bool ts[k].runs] 55)).drewN nq).cell? ⟨wr.heap.size, 0, none⟩ = some (.string ts[k].path) := by simp
        have y1 : ((wr.alloc (.cells #[.string ts[k].path, .string ts[k].text, .bool ts[k].runs] 55)).drewN nq).cell? ⟨wr.heap.size, 1, none⟩ = some (.string ts[k].text) := by simp
        have y2 : ((wr.alloc (.cells #[.string ts[k].path, .string ts[k].text, .bool ts[k].runs] 55)).drewN nq).cell? ⟨wr.heap.size, 2, none⟩ = some (.bool ts[k].runs) := by simp
        have hT5 : TreeM L N ((wr.alloc (.cells #[.string ts[k].path, .string ts[k].text, .bool ts[k].runs] 55)).drewN nq) β μ φ := hT2.turn (fun _ _ => rfl)
        have hB5 : Below L wT ((wr.alloc (.cells #[.string ts[k].path, .string ts[k].text, .bool ts[k].runs] 55)).drewN nq) := hBL2.trans ⟨rfl, rfl, rfl, Nat.le_refl _, fun _ _ => rfl⟩
        have hBw5 : Below w.heap.size w ((wr.alloc (.cells #[.string ts[k].path, .string ts[k].text, .bool ts[k].runs] 55)).drewN nq) := hBw2.trans ⟨rfl, rfl, rfl, Nat.le_refl _, fun _ _ => rfl⟩
        generalize (wr.alloc (.cells #[.string ts[k].path, .string ts[k].text, .bool ts[k].runs] 55)).drewN nq = W5 at *
        clear hBw2 hBL2 hT2 hcT2 hals x0 x1 x2 hBw hcT' hBT hB hT
        generalize wr.heap.size = be at *
        cases bl with
        | true =>
          go_wp2
          go_ret2
          refine ⟨hBw5, .inr ⟨hbad (fun ⟨_, _, h2, _⟩ => ?_), rfl⟩⟩
          have := HB.out.2 h2
          cases this
        | false =>
          have hpl := HB.out.1 rfl
          have HP : Keep (∀ j, j + 1 = k → ∀ hj : j < ts.length, Op.bytesLess ts[j].path.toList ts[k].path.toList = true) := ⟨hpl⟩
          clear hpl HB
          go_wp2_with fail
          refine (isEntry_any ts[k] (by omega) _).mono ?_
          rintro x w6 ⟨rfl, hb6⟩
          cases hen : enOk ts[k] with
          | false =>
            go_wp2
            go_ret2
            refine ⟨hBw5.trans (hb6.mono hBw5.size), .inr ⟨hbad (fun ⟨_, h1, _, _⟩ => ?_), rfl⟩⟩
            rw [hen] at h1
            cases h1
          | true =>
            obtain ⟨h6, h126⟩ := parts6 hen
            have y0 := cell_later hb6 y0
            have y1 := cell_later hb6 y1
            have y2 := cell_later hb6 y2
            have hT6 := hT5.below hb6
            have hBw6 := hBw5.trans (hb6.mono hBw5.size)
            have hLw : L ≤ W5.heap.size := Nat.le_trans hLg hB5.size
            have hB6 := hB5.trans (hb6.mono hLw)
            have hLw6 : L ≤ w6.heap.size := Nat.le_trans hLw hb6.size
            have hless := asc_all hok.out hlt HP.out
            have hbi := blocked_iff hS ts[k] hless
            have HBI : Keep (Blocked β φ (partsB ts[k].path) ↔ ∃ e' ∈ ts.take k, Begins e'.path ts[k].path) := ⟨hbi⟩
            have hlay := lay_any L N (L + 1) w6 β μ φ hT6 hS.files_nodes hroot (by omega) ts[k] (by omega) (path_pos (by simp only [enOk, Bool.and_eq_true] at hen; exact hen.1))
            clear hless hbi hT5 hB5 hBw5 hb6
            go_wp2_with fail
            refine hlay.mono ?_
            rintro x w7 (⟨rfl, hnb, ⟨β', μ', hT7, hgr, hr7⟩, hBT7⟩ | ⟨rfl, hbl, _, hBT7⟩)
            · have hB7 := hBT7.below hT6 hLw6
              have hS7 := hS.laid ts[k] (by
                cases hx : φ (partsB ts[k].path) with
                | none => rfl
                | some f => exact absurd (.inr (.inl (by rw [hx]; simp))) hnb) hgr
              rw [← List.take_succ_eq_append_getElem hlt] at hS7
              have hok7 : Keep (∀ i, i < k + 1 → OkAt ts i) := ⟨fun i hi => by
                by_cases e : i = k
                · subst e
                  exact ⟨hlt, hen, HP.out, fun e' he hb => hnb (HBI.out.2 ⟨e', he, hb⟩)⟩
                · exact hok.out i (by omega)⟩
              clear hlay HBI hnb hgr hS
              go_wp2
              go_roundw
              case rel => exact ⟨k + 1, N + (partsB ts[k].path).length, β', μ', _, by congr 1, hlt, hT7, by omega, by rw [hr7]; exact hroot, hS7, hok7, hB6.trans hB7⟩
              case measure => simp only [intOf]; omega
            · have hB7 := hBT7.below hT6 hLw6
              have hBw7 : Below w.heap.size w w7 := hBw6.trans (hB7.mono (by omega))
              clear hlay
              go_wp2
              go_ret2
              refine ⟨hBw7, .inr ⟨hbad (fun ⟨_, _, _, h3⟩ => ?_), rfl⟩⟩
              obtain ⟨e', he, hb⟩ := HBI.out.1 hbl
              exact h3 e' he hb
    · obtain rfl : k = ts.length := by omega
      go_wp2
      go_ret2
      rw [List.take_length] at hS
      exact ⟨hBw, .inl ⟨⟨by omega, hok.out⟩, L + 1, rfl, L, N, β, μ, φ, by omega, by omega, hT, hroot, hS⟩⟩
end Go.Proofs.YtjiafjdjocmodaaGreat

namespace Go.Proofs.YtjiafjdjocmodaaGreat
open Go.RowKit

set_option maxHeartbeats 1000000 in
theorem implTree_any (a : Option Addr) (cap : Nat) (ts : List En) (w : World) (hts : ES w a ts) (hn : ts.length ≤ 1048576) (hz : ∀ e ∈ ts, e.path.size ≤ 1048576) :
    Calls Tryz.prog 27 #[.agg #[.slice a ts.length cap]] w fun e w' => ∃ bl : Bool, e = .returned (.bool bl) ∧ (bl = true ↔ ValidTs ts) ∧ Below w.heap.size w w' := by
  have hal : Below w.heap.size w (w.alloc (.cells #[.slice a ts.length cap] 25)) := (Below.refl _ _).alloc (Nat.le_refl _) _
  go_enter Tryz.func27, Tryz.ntmps27
  go_wp2_with fail
  refine (grow_any a cap ts _ (hts.below hal) hn hz).mono ?_
  rintro e w1 ⟨hb, ⟨hv, root, rfl, _⟩ | ⟨hv, rfl⟩⟩
  · go_wp2
    go_ret
    exact ⟨true, rfl, ⟨fun _ => hv, fun _ => rfl⟩, hal.trans (hb.mono hal.size)⟩
  · go_wp2
    go_ret
    exact ⟨false, rfl, ⟨fun h => (by cases h), fun h => absurd h hv⟩, hal.trans (hb.mono hal.size)⟩
end Go.Proofs.YtjiafjdjocmodaaGreat

namespace Go.Proofs.YtjiafjdjocmodaaGreat
open Go.RowKit Go.Shelf

def renPu : Ren := ⟨fun n => if n = 25 then 63 else n, fun n => if n = 0 then 0 else if n = 3 then 3 else if n = 4 then 4 else if n = 5 then 5 else if n = 9 then 9 else if n = 37 then 22 else if n = 47 then 122 else n, fun n => n⟩

theorem laysClone : LaysPu.n25 Tryz.prog renPu where
  mixed := by kernel_rfl
  f25 := by kernel_rfl
  t0 := by kernel_rfl
  a0 := fun _ => by kernel_rfl
  z0 := fun _ => by kernel_rfl
  v0 := fun _ => by kernel_rfl
  i0 := by kernel_rfl
  t3 := by kernel_rfl
  a3 := fun _ => by kernel_rfl
  z3 := fun _ => by kernel_rfl
  v3 := fun _ => by kernel_rfl
  i3 := by kernel_rfl
  t4 := by kernel_rfl
  a4 := fun _ => by kernel_rfl
  z4 := fun _ => by kernel_rfl
  v4 := fun _ => by kernel_rfl
  i4 := by kernel_rfl
  t5 := by kernel_rfl
  a5 := fun _ => by kernel_rfl
  z5 := fun _ => by kernel_rfl
  v5 := fun _ => by kernel_rfl
  i5 := by kernel_rfl
  t9 := by kernel_rfl
  a9 := fun _ => by kernel_rfl
  z9 := fun _ => by kernel_rfl
  v9 := fun _ => by kernel_rfl
  i9 := by kernel_rfl
  t37 := by kernel_rfl
  a37 := fun _ => by kernel_rfl
  z37 := fun _ => by kernel_rfl
  v37 := fun _ => by kernel_rfl
  i37 := by kernel_rfl
  t47 := by kernel_rfl
  a47 := fun _ => by kernel_rfl
  z47 := fun _ => by kernel_rfl
  v47 := fun _ => by kernel_rfl
  i47 := by kernel_rfl

theorem cloneLite_any (s : ByteArray) (w : World) (hlim : s.size ≤ 281474976710656) :
    Calls Tryz.prog 63 #[.string s] w fun e w' => e = .returned (.string s) ∧ Below w.heap.size w w' :=
  AnyPu.stringslite_Clone laysClone s w hlim

set_option maxHeartbeats 400000 in
theorem clone_any (s : ByteArray) (w : World) (hlim : s.size ≤ 281474976710656) :
    Calls Tryz.prog 31 #[.string s] w fun e w' => e = .returned (.string s) ∧ Below w.heap.size w w' := by
  go_enter Tryz.func31, Tryz.ntmps31
  go_wp2_with (go_at_call 63; refine (cloneLite_any _ _ hlim).mono ?_; rintro e w1 ⟨rfl, hb⟩)
  go_ret
  exact ⟨rfl, hb⟩
end Go.Proofs.YtjiafjdjocmodaaGreat
