/-
  impl's names: the names of a node's kids, in order.
-/
import Derived.Test.YtmeodgcnnjkilaaSortN
import Derived.Test.YtmeodgcnnjkilaaSortZ
import Derived.Sort.KeysCollected
import Derived.Sort.OwnSorted
import Derived.Maps.RangeWalk
namespace Go.Proofs.Ytmeodgcnnjkilaa
open Go.RowKit Go.Shelf

/-- Where the names lie. -/
def NamesAt (B : Nat) (w : World) (ad : Option Addr) (ns : List ByteArray) : Prop :=
  ns = [] ∨ ∃ g, ad = some ⟨g, 0, none⟩ ∧ B ≤ g ∧ g < w.heap.size ∧ ∀ i (h : i < ns.length), w.cell? ⟨g, i, none⟩ = some (.string ns[i])

theorem ptr_inv (v : Value) (y : DataW Unit × List MemPlace) (h : ptrR v = some y) : ∃ c, v = ptrV c := by
  unfold ptrR at h
  split at h
  · exact ⟨none, rfl⟩
  · rename_i b; exact ⟨some b, rfl⟩
  · cases h

def NamesPost (β : Way → Option Nat) (φ : Way → Option (ByteArray × Bool)) (q : Way) (w : World) (e : Ending) (w' : World) : Prop :=
  ∃ ad cap ns, e = .returned (.slice ad ns.length cap) ∧ NamesAt w.heap.size w' ad ns ∧ NamesOf β φ q ns ∧ Below w.heap.size w w' ∧ ns.length ≤ 100000

theorem keys_end {D0 : DataW Unit} {left : Lit → Bool} {ss : List (List UInt8)} {kid : ByteArray → Option Nat} (hC : Go.Collected D0 left ss) (hl0 : ∀ kl, left kl = false)
    (hat : ∀ x : ByteArray, x.size ≤ 1099511627776 → D0.atKey (.string x.data.toList) (ptrL none) = ptrL (kid x)) (hhas : ∀ x : ByteArray, Maps.has D0 (.string x.data.toList) = true → kid x ≠ none) (hx : ∀ x, kid x ≠ none → x.size ≤ 20) :
    (ss.map mkB).Nodup ∧ ∀ x, x ∈ ss.map mkB ↔ kid x ≠ none := by
  refine ⟨?_, fun x => ?_⟩
  · unfold List.Nodup
    rw [List.pairwise_map]
    exact List.Pairwise.imp (fun {a b} h e => h (mkB_inj e)) hC.1
  · have h1 : x ∈ ss.map mkB ↔ x.data.toList ∈ ss := by
      rw [List.mem_map]
      constructor
      · rintro ⟨l, hl, rfl⟩; rw [mkB_list]; exact hl
      · intro h; exact ⟨_, h, mkB_data x⟩
    rw [h1, hC.2]
    constructor
    · intro h; exact hhas x h.1
    · intro h
      refine ⟨?_, hl0 _⟩
      cases hh : Maps.has D0 (.string x.data.toList) with
      | true => rfl
      | false =>
        have h2 := hat x (by have := hx x h; omega)
        rw [Maps.atKey_of_not_has hh] at h2
        cases hk : kid x with
        | none => exact absurd hk h
        | some c => rw [hk] at h2; simp [ptrL] at h2

set_option maxRecDepth 100000 in
set_option maxHeartbeats 4000000 in
theorem names_any (lo N : Nat) (w : World) (β : Way → Option Nat) (μ : Way → Nat) (φ : Way → Option (ByteArray × Bool)) (hT : TreeM lo N w β μ φ) (hN : N ≤ 90000) (q : Way) (b : Nat) (hb : β q = some b)
    (hx : ∀ x, β (q ++ [x]) ≠ none → x.size ≤ 20 ∧ (47 : UInt8) ∉ x.data.toList) :
    Calls Try.prog 58 #[.pointer (some ⟨b, 0, none⟩)] w fun e w' => NamesPost β φ q w e w' := by
  obtain ⟨i0, hi, hz0, hz1, hz2⟩ := info_parts Try.infoStr
  obtain ⟨hob, _, _, hkd⟩ := hT.node q b hb
  obtain ⟨_, c3, _, _, _⟩ := node_cells hob
  obtain ⟨n, D0, hown, hnN, hat, _, hhas⟩ := hkd.own
  have hsz := hown.size_le
  have hbl := hown.lt
  have hal : Below w.heap.size w (w.alloc (.cells #[.pointer (some ⟨b, 0, none⟩)] 56)) := (Below.refl _ _).alloc (Nat.le_refl _) _
  have c3' := cell_later hal c3
  have hbx : (w.alloc (.cells #[.pointer (some ⟨b, 0, none⟩)] 56)).cell? ⟨w.heap.size, 0, none⟩ = some (.pointer (some ⟨b, 0, none⟩)) := by simp
  have hsA : (w.alloc (.cells #[.pointer (some ⟨b, 0, none⟩)] 56)).heap.size = w.heap.size + 1 := by simp
  have hownA : (w.alloc (.cells #[.pointer (some ⟨b, 0, none⟩)] 56)).ownsMap Try.prog 9 ptrR (μ q) n D0 := hown.kept (World.grownBy_alloc w _ none) (by simp)
  clear hkd hob c3
  go_enter Try.func58, Try.ntmps58
  generalize hwA : w.alloc (.cells #[.pointer (some ⟨b, 0, none⟩)] 56) = wA at *
  have HS : Keep (wA.heap.size = w.heap.size + 1) := ⟨hsA⟩
  have hTA := hT.below hal
  clear hsA
  go_wp2_with (first
    | (at_range; refine wpList_range_own _ rfl _ 63 rfl 9 56 strKeyed Try.underlying63 ptrR (μ q) n _ rfl hownA ?_; intro w0 hrg0 hg0 hs0))
  go_frame
  clear hwA
  have HS0 : Keep (w0.heap.size = wA.heap.size + 1) := ⟨hs0⟩
  clear hs0
  go_loopw [3] (fun v wr => ∃ (left : Lit → Bool) (cnt : Nat) (ss : List (List UInt8)), wr.ranges Try.prog 9 ptrR (μ q) wA.heap.size n D0 left cnt ∧ ss.length + cnt ≤ Maps.size D0 ∧ wr.ownsRow w0.heap.size 9 1 v ss.length (ss.map encStr) ∧ Go.Collected D0 left ss ∧ RowKit.Below wA.heap.size wA wr ∧ w0.heap.size ≤ wr.heap.size)
    (fun _ wr => wr.rangeLeft (μ q) wA.heap.size)
  case atStart =>
    exact ⟨_, _, [], hrg0, by simp, World.ownsRow_nil _ _ _ _, Go.Collected.start D0, (Below.refl _ _).grown hg0 (Nat.le_refl _) (fun j hj => by cases hj), Nat.le_refl _⟩
  case round =>
    obtain ⟨left, cnt, ss, hrg, hcs, hrow, hC, hnx, hw0⟩ := hrel
    clear hrg0 hg0
    go_wp2_with (first
      | (at_next; refine wpList_next_ranges _ rfl _ rfl 9 strKeyed ptrR encStr ptrV (fun key kl hk => by obtain ⟨x, hx, _⟩ := Maps.keyOf_str Try.underlying9 hk; exact ⟨x, hx⟩) ptr_inv (μ q) wA.heap.size n _ _ _ rfl hrg ?_ ?_))
    · intro hc0 hl0
      have hTr : TreeM lo N wr β μ φ := hTA.below hnx
      have hbxr : wr.cell? ⟨w.heap.size, 0, none⟩ = some (.pointer (some ⟨b, 0, none⟩)) := (hnx.cell (p := ⟨w.heap.size, 0, none⟩) (by have := HS.out; simp; omega)).trans hbx
      have hends := keys_end hC hl0 hat hhas (fun x h => (hx x h).1)
      have hBw : Below w.heap.size w wr := hal.trans (hnx.mono hal.size)
      have HE : Keep ((ss.map mkB).Nodup ∧ ∀ x, x ∈ ss.map mkB ↔ β (q ++ [x]) ≠ none) := ⟨hends⟩
      have hl : ss.length ≤ 100000 := by omega
      clear hends hrg hhas hat hC hownA hown hbl
      by_cases hss : ss = []
      · obtain ⟨ad, cap, rfl⟩ := owns_slice hrow
        subst hss
        have hc := sort_none ad cap (.func (.func 70) #[] #[.pointer (some ⟨w.heap.size, 0, none⟩)]) wr
        simp only [List.length_nil]
        go_wp2_with (go_at_call 69; refine hc.mono ?_; rintro e w' ⟨rfl, rfl⟩)
        go_ret
        exact ⟨ad, cap, [], rfl, .inl rfl, ⟨fun x => by simpa using HE.out.2 x, List.Pairwise.nil⟩, hBw, Nat.zero_le _⟩
      · rcases hrow.2 with ⟨_, h0⟩ | ⟨g, cap, cur, rfl, hbase, hb2, h1, h2, h3, h4⟩
        · exact absurd (List.eq_nil_of_length_eq_zero h0) hss
        have hgl : g < wr.heap.size := (Array.getElem?_eq_some_iff.1 hb2).1
        have hgw : w.heap.size < g := by have := HS.out; have := HS0.out; omega
        have hcells : ∀ i (h : i < (ss.map mkB).length), wr.cell? ⟨g, i, none⟩ = some (.string (ss.map mkB)[i]) ∧ wr.frozen? ⟨g, i, none⟩ = false := fun i h => by
          have h' : i < ss.length := by simpa using h
          refine ⟨?_, hrow.frozenAt i⟩
          rw [hrow.cellAt i (by omega)]
          simp [h', encStr, mkB]
        have hc := sort_names lo N wr β μ φ hTr q b w.heap.size g cap hb hx hbxr (by omega) (fun h => by have := (hT.lt h).2; omega) hgl (ss.map mkB) (by simpa using hss) HE.out.1 HE.out.2 (by simpa using hl) hcells
        rw [List.length_map] at hc
        clear hcells hrow hb2 h1 h2 h3 h4
        go_wp2_with (go_at_call 69; refine hc.mono ?_; rintro e w' ⟨rfl, ns, hno, hnl, hcell, hgr⟩)
        go_ret
        refine ⟨some ⟨g, 0, none⟩, cap, ns, by rw [hnl]; rfl, .inr ⟨g, rfl, by omega, Nat.lt_of_lt_of_le hgl hgr.size, hcell⟩, hno, hBw.grown hgr hBw.size (fun j hj => by cases hj; omega), by omega⟩
    · intro x c kl yd yp w2 cnt2 hkey hlk hv hat2 hrg2 hlt hg2 hs2 hen
      obtain ⟨x', ex, rfl, _⟩ := Maps.keyOf_str Try.underlying9 hkey
      obtain rfl : x = x' := encStr_inj ex
      have hne : some wA.heap.size ≠ u3.ownBlock := row_ne_low hrow (by have := HS0.out; omega)
      have hrow2 := hrow.kept hg2 (Or.inr hne.symm)
      have hw2 : w0.heap.size ≤ w2.heap.size := by omega
      clear hs2
      go_wp2_with (first
        | (at_builtin; refine wpList_append_own _ rfl _ _ 44 rfl w0.heap.size 9 i0 (.string ⟨#[]⟩) 1 16 Try.underlying44 hi hz0 hz1 hz2 rfl (by decide) _ _ _ rfl (hrow2.alloc _) ⟨w2.heap.size, 0, none⟩ 1 1 [encStr x] rfl rfl (cell_one_new _ _ _) (by simp [Value.oneCell', encStr]) (by unfold maxLen at *; omega) (by omega) (by simp; omega) ?_; intro v' w3 hown' hg3 hnil3; go_frame))
      have hml : μ q < w0.heap.size := by have := HS.out; have := HS0.out; omega
      have hrg3 := (hrg2.alloc _).kept hg3 (row_ne_low hrow hml) hne
      have hnx2 := hnx.grown hg2 hnx.size (fun j hj => by cases hj; exact Nat.le_refl _)
      have hnx3 := (hnx2.alloc hnx2.size (.cells #[encStr x] 9)).grown hg3 (by have := hnx2.size; simp; omega) (fun j hj => by have := owns_row_ge hrow hj; have := HS0.out; omega)
      go_roundw
      case rel => exact ⟨_, cnt2, ss ++ [x], hrg3, by simp; omega, by simpa using hown', hC.step hlk hat2, hnx3, by have := hg3.size; simp at this; omega⟩
      case measure => rw [hrg3.left_eq, hrg.left_eq]; exact hlt
end Go.Proofs.Ytmeodgcnnjkilaa
