/-
  impl's tree: a tree of nodes told as a Tree.
-/
import Derived.Test.YtmeodgcnnjkilaaTreeA
namespace Go.Proofs.Ytmeodgcnnjkilaa
open Go.RowKit

def TreePost (φ : Way → Option (ByteArray × Bool)) (w : World) (e : Ending) (w' : World) : Prop :=
  ∃ us, Told φ [] [] [] us ∧ Below w.heap.size w w' ∧ ((100 < us.length ∧ TreeR [] 4 w.heap.size e w') ∨ (us.length ≤ 100 ∧ TreeR us 0 w.heap.size e w'))

set_option maxRecDepth 100000 in
set_option maxHeartbeats 2000000 in
theorem tree_any (lo N K : Nat) (hN : N ≤ 90000) (hK : K ≤ 100000) (β : Way → Option Nat) (μ : Way → Nat) (φ : Way → Option (ByteArray × Bool)) (hG : GoodT K β φ) (root : Nat) (w : World) (hT : TreeM lo N w β μ φ) (hr : β [] = some root) :
    Calls Try.prog 36 #[.pointer (some ⟨root, 0, none⟩)] w fun e w' => TreePost φ w e w' := by
  have hal : Below w.heap.size w (w.alloc (.cells #[.slice none 0 0] 31)) := (Below.refl _ _).alloc (Nat.le_refl _) _
  have k0 : (w.alloc (.cells #[.slice none 0 0] 31)).cell? ⟨w.heap.size, 0, none⟩ = some (.slice none 0 0) := by simp
  have kf : (w.alloc (.cells #[.slice none 0 0] 31)).frozen? ⟨w.heap.size, 0, none⟩ = false := by simp
  have ks : w.heap.size < (w.alloc (.cells #[.slice none 0 0] 31)).heap.size := by simp
  have kw : w.heap.size + 1 ≤ (w.alloc (.cells #[.slice none 0 0] 31)).heap.size := by simp
  have hcall := tellAll_any lo N K hN hK β μ φ hG [] root _ (hT.below hal) hr
  go_enter Try.func36, Try.ntmps36
  go_wp2_with fail
  refine hcall.mono ?_
  rintro e w1 ⟨ad, cap, us, rfl, ht, hel, hb1⟩
  replace k0 := cell_later hb1 k0
  replace kf : w1.frozen? ⟨w.heap.size, 0, none⟩ = false := (hb1.frozen (p := ⟨w.heap.size, 0, none⟩) ks).trans kf
  have hbw := hal.trans (hb1.mono hal.size)
  replace hel := hel.mono kw
  clear hcall hb1 hal kw ks
  by_cases h100 : (100 : Int) < us.length
  · go_wp2
    refine bodyPost_ret (v := TreeV none ([] : List En).length 0 4) ?_ rfl ⟨us, ht, hbw.setCell (p := ⟨w.heap.size, 0, none⟩) (Nat.le_refl _) _, .inl ⟨by omega, none, 0, rfl, EL.nil _ _ _⟩⟩
    go_light
    simp [results, Try.results36, go_sem, TreeV, k0]
  · go_wp2
    refine bodyPost_ret (v := TreeV ad us.length cap 0) ?_ rfl ⟨us, ht, hbw.setCell (p := ⟨w.heap.size, 0, none⟩) (Nat.le_refl _) _, .inr ⟨by omega, ad, cap, rfl, ?_⟩⟩
    · go_light
      simp [results, Try.results36, go_sem, TreeV, k0]
    · have h2 : EL (w.heap.size + 1) (w1.setCell ⟨w.heap.size, 0, none⟩ (.slice ad us.length cap)) ad us := hel.grown (row := some w.heap.size) ⟨rfl, rfl, rfl, by simp, fun k _ hk => Below.heap_setCell _ _ _ _ (fun e => hk (by rw [e]))⟩ (fun g _ hg _ e => by cases e; omega)
      exact h2.mono (by omega)
end Go.Proofs.Ytmeodgcnnjkilaa
