/-
  slices.SortFunc of the names of a node's kids, with names' closure.
-/
import Derived.Test.YtmeodgcnnjkilaaSortF
import Derived.Test.YtmeodgcnnjkilaaNamesL
import Derived.Test.YtmeodgcnnjkilaaTellP
namespace Go.Proofs.Ytmeodgcnnjkilaa
open Go.RowKit Go.Shelf Go.Sort

/-- A kid's name. -/
abbrev KidN (β : Way → Option Nat) (q : Way) : Type := { x : ByteArray // β (q ++ [x]) ≠ none }
def kidV {β : Way → Option Nat} {q : Way} (x : KidN β q) : Value := .string x.1

theorem kid_lt {β : Way → Option Nat} (φ : Way → Option (ByteArray × Bool)) {q : Way} (x y : KidN β q) : ltOf (fun x y : KidN β q => cmpKid φ q x.1 y.1) x y = Op.bytesLess (beginL (φ (q ++ [x.1])).isSome x.1.data.toList) (beginL (φ (q ++ [y.1])).isSome y.1.data.toList) := by
  show decide (Lib.compareBytes (beginB (φ (q ++ [x.1])).isSome x.1).data.toList (beginB (φ (q ++ [y.1])).isSome y.1).data.toList < 0) = _
  rw [beginB_list, beginB_list]
  cases h : Op.bytesLess (beginL (φ (q ++ [x.1])).isSome x.1.data.toList) (beginL (φ (q ++ [y.1])).isSome y.1.data.toList) with
  | true => simpa using compare_neg.2 h
  | false =>
    simp only [decide_eq_false_iff_not]
    intro hc
    rw [compare_neg.1 hc] at h
    cases h

theorem not_less {a b : List UInt8} (h : Op.bytesLess a b = false) : Op.bytesLess b a = true ∨ b = a := by
  have := less_total a b
  rw [h] at this
  simpa using this.symm

theorem kid_swo {β : Way → Option Nat} (φ : Way → Option (ByteArray × Bool)) {q : Way} : SWO (ltOf (fun x y : KidN β q => cmpKid φ q x.1 y.1)) where
  irrefl x := by rw [kid_lt]; exact less_irrefl _
  trans x y z h1 h2 := by rw [kid_lt] at *; exact less_trans h1 h2
  ntrans x y z h1 h2 := by
    rw [kid_lt] at *
    generalize beginL (φ (q ++ [x.1])).isSome x.1.data.toList = a at *
    generalize beginL (φ (q ++ [y.1])).isSome y.1.data.toList = b at *
    generalize beginL (φ (q ++ [z.1])).isSome z.1.data.toList = c at *
    cases hc : Op.bytesLess a c with
    | false => rfl
    | true =>
      exfalso
      rcases not_less h1 with h3 | rfl
      · rw [less_trans h3 hc] at h2
        cases h2
      · rw [h2] at hc; cases hc

/-- One beginning, one kid. -/
theorem begin_inj {f g : Bool} {a b : List UInt8} (ha : 47 ∉ a) (hb : 47 ∉ b) (h : beginL f a = beginL g b) : a = b := by
  by_cases hne : a = b
  · exact hne
  · obtain ⟨_, h2⟩ := begin_prefix (f := f) (g := g) ha hb (by rw [h]; exact List.prefix_refl _) hne
    exact absurd h h2

theorem sorted_grown {α : Type} [Inhabited α] (enc : α → Value) (w : World) (g n : Nat) (d : Array α) (os : Array Obj) : w.grownBy (sortWorld enc w g 0 n d os) (some g) := by
  refine ⟨rfl, rfl, rfl, ?_, fun k hk hne => ?_⟩
  · simp [sortWorld, grow, putRow, mapBlock, Sort.ahead]
  · have hkg : g ≠ k := fun e => hne (by rw [e])
    simp only [sortWorld, grow, putRow, mapBlock, Sort.ahead]
    rw [Array.getElem?_append_left (by simpa using hk), Array.getElem?_modify]
    simp [hkg]

theorem sort_names (lo N : Nat) (w : World) (β : Way → Option Nat) (μ : Way → Nat) (φ : Way → Option (ByteArray × Bool)) (hT : TreeM lo N w β μ φ) (q : Way) (b bx g cap : Nat) (hb : β q = some b)
    (hx : ∀ x, β (q ++ [x]) ≠ none → x.size ≤ 20 ∧ (47 : UInt8) ∉ x.data.toList) (hbx : w.cell? ⟨bx, 0, none⟩ = some (.pointer (some ⟨b, 0, none⟩))) (hbg : bx ≠ g) (hg : ¬ TreeB β μ g) (hgw : g < w.heap.size)
    (ns : List ByteArray) (h0 : ns ≠ []) (hnd : ns.Nodup) (hm : ∀ x, x ∈ ns ↔ β (q ++ [x]) ≠ none) (hl : ns.length ≤ 100000)
    (hc : ∀ i (h : i < ns.length), w.cell? ⟨g, i, none⟩ = some (.string ns[i]) ∧ w.frozen? ⟨g, i, none⟩ = false) :
    Calls Try.prog 69 #[.slice (some ⟨g, 0, none⟩) ns.length cap, .func (.func 70) #[] #[.pointer (some ⟨bx, 0, none⟩)]] w fun e w' =>
      e = .returned (.tuple #[]) ∧ ∃ ns', NamesOf β φ q ns' ∧ ns'.length = ns.length ∧ (∀ i (h : i < ns'.length), w'.cell? ⟨g, i, none⟩ = some (.string ns'[i])) ∧ w.grownBy w' (some g) := by
  obtain ⟨x0, hx0⟩ := List.exists_mem_of_ne_nil ns h0
  haveI : Inhabited (KidN β q) := ⟨⟨x0, (hm x0).1 hx0⟩⟩
  have hat : ∀ x ∈ ns, β (q ++ [x]) ≠ none := fun x h => (hm x).1 h
  obtain ⟨d, hd⟩ : ∃ d : Array (KidN β q), d.toList.map Subtype.val = ns := ⟨(ns.attachWith _ hat).toArray, by simp⟩
  have hsz : d.size = ns.length := by rw [← hd]; simp
  have hget : ∀ (d : Array (KidN β q)) (ns : List ByteArray), d.toList.map Subtype.val = ns → ∀ i (h : i < ns.length), kidV d[i]! = .string ns[i] := by
    intro d ns hd i h
    subst hd
    simp at h
    rw [getElem!_pos d i h]
    simp [kidV]
  have hH : Holds kidV w g 0 d := fun j hj => by
    rw [Nat.zero_add, hget d ns hd j (by omega)]
    exact hc j (by omega)
  have hcmp : CmpReads Try.prog 70 #[.pointer (some ⟨bx, 0, none⟩)] (kidV (β := β) (q := q)) (fun x y => cmpKid φ q x.1 y.1) g 0 d.size w := by
    intro m os dk hdk x y
    have hgr := sorted_grown (kidV (β := β) (q := q)) w g m dk os
    have hT' : TreeM lo N (sortWorld kidV w g 0 m dk os) β μ φ := hT.turn (fun k hk => hgr.block k (hT.lt hk).2 (by simp; rintro rfl; exact hg hk))
    have hbx' : (sortWorld kidV w g 0 m dk os).cell? ⟨bx, 0, none⟩ = some (.pointer (some ⟨b, 0, none⟩)) := by
      obtain ⟨_, _, _, hlt', _⟩ := Sort.cells_of_cell? hbx
      have hlt : bx < w.heap.size := (Array.getElem?_eq_some_iff.1 hlt').1
      exact (World.cell?_of_block (hgr.block bx hlt (by simpa using hbg))).trans hbx
    obtain ⟨c1, hc1⟩ := Option.ne_none_iff_exists'.1 x.2
    obtain ⟨c2, hc2⟩ := Option.ne_none_iff_exists'.1 y.2
    exact namesL_any lo N _ β μ φ hT' q b c1 c2 bx x.1 y.1 hb hc1 hc2 (by have := (hx _ x.2).1; omega) (by have := (hx _ y.2).1; omega) hbx'
  have eg : ∀ args w, (callFunc 70 args).run Try.prog w = .ok (.enter 70 args) w := enters_of Try.func70 (by kernel_rfl) rfl
  have hcon := Any.slices_SortFunc laysSort kidV (fun _ => rfl) (fun x y : KidN β q => cmpKid φ q x.1 y.1) (kid_swo φ) 70 #[.pointer (some ⟨bx, 0, none⟩)] g 0 cap d w eg hcmp.lays hH hgw (by omega)
  rw [hsz] at hcon
  change Calls Try.prog 69 _ _ _ at hcon
  refine hcon.mono ?_
  rintro e w' ⟨he, d', n, os, ⟨hps, _, hpp⟩, hso, rfl⟩
  have hsz' : d'.size = ns.length := hps.trans hsz
  have hperm : d'.toList.Perm d.toList := by
    have e1 : (d'.extract 0 ns.length).toList = d'.toList := by rw [← hsz']; simp
    have e2 : (d.extract 0 ns.length).toList = d.toList := by rw [← hsz]; simp
    rw [e1, e2] at hpp
    exact hpp
  have hpm : (d'.toList.map Subtype.val).Perm ns := by rw [← hd]; exact hperm.map _
  have hSW : SW kidV w g 0 d' (sortWorld kidV w g 0 n d' os) := ⟨n, os, rfl⟩
  have hH' := hSW.holds hgw hH hps
  refine ⟨he, d'.toList.map Subtype.val, ⟨fun x => ?_, ?_⟩, by simp [hsz'], fun i hi => ?_, sorted_grown _ _ _ _ _ _⟩
  · rw [hpm.mem_iff, hm]
  · have hnd' : (d'.toList.map Subtype.val).Nodup := hpm.nodup_iff.2 hnd
    rw [List.pairwise_iff_getElem]
    intro i j hi hj hij
    have hne : (d'.toList.map Subtype.val)[i] ≠ (d'.toList.map Subtype.val)[j] := List.pairwise_iff_getElem.1 hnd' i j hi hj hij
    simp at hi hj
    have h1 := hso i j (Nat.zero_le _) hij (by omega)
    rw [kid_lt, getElem!_pos d' i hi, getElem!_pos d' j hj] at h1
    simp only [List.getElem_map, Array.getElem_toList] at hne ⊢
    refine ⟨hne, ?_⟩
    rcases not_less h1 with h2 | h2
    · exact h2
    · exact absurd (WideShapes.bytes_inj (begin_inj (hx _ d'[i].2).2 (hx _ d'[j].2).2 h2)) hne
  · have := (hH' i (by simpa using hi)).1
    rw [Nat.zero_add, hget d' _ rfl i hi] at this
    exact this
end Go.Proofs.Ytmeodgcnnjkilaa
