/-
  impl.Remove.
-/
import Derived.Test.YtocnnebbllkkeaaRemP
import Derived.Test.YtocnnebbllkkeaaGrow
import Derived.Test.YtocnnebbllkkeaaFind
namespace Go.Proofs.Ytocnnebbllkkeaa
open Go.RowKit

theorem file_in {ts : List En} {β : Way → Option Nat} {φ : Way → Option (ByteArray × Bool)} (hS : Shape ts β φ) {p : ByteArray} : φ (partsB p) ≠ none ↔ ∃ e ∈ ts, e.path = p := by
  rw [hS.files]
  exact ⟨fun ⟨e, he, hp⟩ => ⟨e, he, partsB_inj hp⟩, fun ⟨e, he, hp⟩ => ⟨e, he, by rw [hp]⟩⟩

theorem el_set {B g : Nat} {w : World} {a : Option Addr} {ts : List En} {u : Value} (h : EL B w a ts) (hg : g < B) : EL B (w.setCell ⟨g, 0, none⟩ u) a ts :=
  h.grown (row := some g) ⟨rfl, rfl, rfl, by simp, fun k _ hk => Below.heap_setCell _ _ _ _ (fun e => hk (by rw [e]))⟩ (fun k _ hk _ e => by cases e; omega)

set_option maxRecDepth 100000 in
set_option maxHeartbeats 4000000 in
theorem implRem_any (a : Option Addr) (cap : Nat) (ts : List En) (p : ByteArray) (w : World) (hts : ES w a ts) (hn : ts.length ≤ 1048576) (hz : ∀ e ∈ ts, e.path.size ≤ 1048576 ∧ e.text.size ≤ 1048576) (hp : p.size ≤ 1048576) :
    Calls Try.prog 16 #[.agg #[.slice a ts.length cap], .string p] w fun e w' => RemPost ts p w e w' := by
  have hal : Below w.heap.size w ((w.alloc (.cells #[.slice a ts.length cap] 29)).alloc (.cells #[.slice none 0 0] 29)) := ((Below.refl _ _).alloc (Nat.le_refl _) _).alloc (by simp) _
  have k0 : ((w.alloc (.cells #[.slice a ts.length cap] 29)).alloc (.cells #[.slice none 0 0] 29)).cell? ⟨w.heap.size + 1, 0, none⟩ = some (.slice none 0 0) := by simp
  have kf : ((w.alloc (.cells #[.slice a ts.length cap] 29)).alloc (.cells #[.slice none 0 0] 29)).frozen? ⟨w.heap.size + 1, 0, none⟩ = false := by simp
  have ks : w.heap.size + 1 < ((w.alloc (.cells #[.slice a ts.length cap] 29)).alloc (.cells #[.slice none 0 0] 29)).heap.size := by simp
  go_enter Try.func16, Try.ntmps16
  go_wp2_with fail
  refine (grow_any a cap ts _ (hts.below hal) hn (fun e he => (hz e he).1)).mono ?_
  rintro e w1 ⟨hb1, hpost⟩
  replace k0 := cell_later hb1 k0
  replace kf : w1.frozen? ⟨w.heap.size + 1, 0, none⟩ = false := (hb1.frozen (p := ⟨w.heap.size + 1, 0, none⟩) ks).trans kf
  have ks1 : w.heap.size + 1 < w1.heap.size := Nat.lt_of_lt_of_le ks hb1.size
  have hbw := hal.trans (hb1.mono hal.size)
  clear hb1 hal hts
  generalize hg : w.heap.size + 1 = g at *
  have hgw : w.heap.size ≤ g := by omega
  clear hg
  rcases hpost with ⟨hv, root, rfl, lo, N, β, μ, φ, hlo, hN, hT, hroot, hS⟩ | ⟨hv, rfl⟩
  · have hglo : g < lo := Nat.lt_of_lt_of_le ks hlo
    clear ks hlo
    go_wp2_with fail
    refine (find_any lo N root w1 β μ φ hT hroot p (by omega)).mono ?_
    rintro e w2 ⟨rfl, hb2⟩
    replace k0 := cell_later hb2 k0
    replace kf : w2.frozen? ⟨g, 0, none⟩ = false := (hb2.frozen (p := ⟨g, 0, none⟩) ks1).trans kf
    have ks2 : g < w2.heap.size := Nat.lt_of_lt_of_le ks1 hb2.size
    have hbw2 := hbw.trans (hb2.mono hbw.size)
    have hT2 := hT.below hb2
    clear hb2 hT hbw ks1
    cases hβ : β (partsB p) with
    | none =>
      have hφ : φ (partsB p) = none := by
        cases h : φ (partsB p) with
        | none => rfl
        | some f => exact absurd hβ (hS.files_nodes _ (by rw [h]; simp))
      have hno : ∀ e ∈ ts, e.path ≠ p := fun e he hpe => absurd hφ ((file_in hS).2 ⟨e, he, hpe⟩)
      unfold ptrV
      go_wp2
      refine bodyPost_ret (v := TreeV none ([] : List En).length 0 4) ?_ rfl ⟨[], 4, .inr (.inl ⟨hv, hno, rfl, rfl⟩), ⟨none, 0, rfl, EL.nil _ _ _⟩, hbw2.setCell (p := ⟨g, 0, none⟩) hgw _⟩
      go_light
      simp [results, Try.results16, go_sem, TreeV, k0]
    | some b =>
      obtain ⟨hob, hlb, _, _⟩ := hT2.node _ b hβ
      obtain ⟨c0, _, cf, c1, c2⟩ := node_cells hob
      cases hφ : φ (partsB p) with
      | none =>
        rw [hφ] at c0
        have hno : ∀ e ∈ ts, e.path ≠ p := fun e he hpe => absurd hφ ((file_in hS).2 ⟨e, he, hpe⟩)
        unfold ptrV
        go_wp2
        refine bodyPost_ret (v := TreeV none ([] : List En).length 0 4) ?_ rfl ⟨[], 4, .inr (.inl ⟨hv, hno, rfl, rfl⟩), ⟨none, 0, rfl, EL.nil _ _ _⟩, hbw2.setCell (p := ⟨g, 0, none⟩) hgw _⟩
        go_light
        simp [results, Try.results16, go_sem, TreeV, k0]
      | some f =>
        have hyes : ∃ e ∈ ts, e.path = p := (file_in hS).1 (by rw [hφ]; simp)
        have hG := (good_of_shape hv hS).strike (partsB p)
        have hT3 := hT2.strike hβ
        have hbw3 := setN_below hbw2 (show w.heap.size ≤ b by omega)
        have k0' : (setN w2 b).cell? ⟨g, 0, none⟩ = some (.slice none 0 0) := (World.cell?_of_block (setN_other (show g ≠ b by omega))).trans k0
        have kf' : (setN w2 b).frozen? ⟨g, 0, none⟩ = false := by unfold setN; rw [World.frozen?_setCell, World.frozen?_setCell, World.frozen?_setCell]; exact kf
        have ks3 : g < (setN w2 b).heap.size := by unfold setN; simpa using ks2
        have hcall := tree_any lo N 100 (by omega) (by omega) β μ _ hG root (setN w2 b) hT3 hroot
        rw [hφ] at c0
        have HW : Keep (∀ us, Told (upd φ (partsB p) none) [] [] [] us → us = without ts p) := ⟨fun us h => told_without hv hS h⟩
        have HL : Keep ((without ts p).length ≤ 100) := ⟨Nat.le_trans (List.length_filter_le _ _) hv.1⟩
        clear hS hT2 hT3 hG hob hbw2 hlb
        unfold ptrV
        go_wp2_with fail
        refine hcall.mono ?_
        rintro e w4 ⟨us, ht, hb4, hres⟩
        obtain rfl := HW.out us ht
        rcases hres with ⟨h, _⟩ | ⟨_, ad, cap4, rfl, hel⟩
        · have := HL.out; omega
        replace k0' := cell_later hb4 k0'
        replace kf' : w4.frozen? ⟨g, 0, none⟩ = false := (hb4.frozen (p := ⟨g, 0, none⟩) ks3).trans kf'
        have hbw4 := hbw3.trans (hb4.mono hbw3.size)
        have hel4 := (el_set (u := .slice ad (without ts p).length cap4) hel ks3).mono hbw3.size
        clear hb4 hcall k0 kf c0 c1 c2 cf ht hel
        unfold TreeV
        go_wp2
        refine bodyPost_ret (v := TreeV ad (without ts p).length cap4 0) ?_ rfl ⟨_, 0, .inr (.inr ⟨hv, hyes, rfl, rfl⟩), ⟨ad, cap4, rfl, hel4⟩, hbw4.setCell (p := ⟨g, 0, none⟩) hgw _⟩
        go_light
        simp [results, Try.results16, go_sem, TreeV, k0']
  · go_wp2
    refine bodyPost_ret (v := TreeV none ([] : List En).length 0 1) ?_ rfl ⟨[], 1, .inl ⟨hv, rfl, rfl⟩, ⟨none, 0, rfl, EL.nil _ _ _⟩, hbw.setCell (p := ⟨g, 0, none⟩) hgw _⟩
    go_light
    simp [results, Try.results16, go_sem, TreeV, k0]
end Go.Proofs.Ytocnnebbllkkeaa
