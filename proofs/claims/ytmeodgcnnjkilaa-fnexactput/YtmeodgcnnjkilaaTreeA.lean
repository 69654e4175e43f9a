/-
  A tree of nodes told whole: tellKids from a node on.
-/
import Derived.Test.YtmeodgcnnjkilaaTellK
namespace Go.Proofs.Ytmeodgcnnjkilaa
open Go.RowKit

theorem told_start {lo N : Nat} {w : World} {β : Way → Option Nat} {μ : Way → Nat} {φ : Way → Option (ByteArray × Bool)} (hT : TreeM lo N w β μ φ) {B : Nat} (hB : w.heap.size ≤ B) : ∀ k, TreeB β μ k → k < B := fun _ hk => Nat.lt_of_lt_of_le (hT.lt hk).2 hB

theorem below_grow {w w' : World} {v v' : Value} (h : Grow w w' v v') (hv : v.ownBlock = none) : Below w.heap.size w w' := by
  obtain ⟨g, _⟩ := h
  rw [hv] at g
  exact ⟨g.os, g.tape, g.output, g.size, fun k hk => g.block k hk (by simp)⟩

def ToldPost (φ : Way → Option (ByteArray × Bool)) (p0 : Way) (w : World) (e : Ending) (w' : World) : Prop :=
  ∃ ad cap us, e = .returned (.slice ad us.length cap) ∧ Told φ p0 [] [] us ∧ EL w.heap.size w' ad us ∧ Below w.heap.size w w'

theorem tellAll_any (lo N K : Nat) (hN : N ≤ 90000) (hK : K ≤ 100000) (β : Way → Option Nat) (μ : Way → Nat) (φ : Way → Option (ByteArray × Bool)) (hG : GoodT K β φ) (p0 : Way) (b : Nat) (w : World) (hT : TreeM lo N w β μ φ) (hb : β p0 = some b) :
    Calls Try.prog 45 #[.pointer (some ⟨b, 0, none⟩), .slice none 0 0, .string ⟨#[]⟩] w fun e w' => ToldPost φ p0 w e w' := by
  refine (tell_any lo N K hN hK β μ φ hG p0 w.heap.size (told_start hT (Nat.le_refl _)) 7 [] b ⟨#[]⟩ [] (.slice none 0 0) w hT (by rw [List.append_nil]; exact hb) (by omega) front_nil (Nat.zero_le _) (acc_nil φ p0 []) (Nat.le_refl _) (World.ownsRow_nil _ _ _ _)).mono ?_
  rintro e w' ⟨v, us, rfl, ht, hrow, hgr⟩
  obtain ⟨ad, cap, rfl⟩ := owns_slice hrow
  exact ⟨ad, cap, us, rfl, ht, el_of_row hrow, below_grow hgr rfl⟩
end Go.Proofs.Ytmeodgcnnjkilaa
