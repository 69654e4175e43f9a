/-
  The form of a tree, plainly. No program is named here.
-/
import Derived.Test.YtoonjihomlkkbacExactValid
namespace Go.Proofs.Ytoonjihomlkkbac
open Go.RowKit

def shortL (n : Nat) : List UInt8 := if h : 128 ≤ n then UInt8.ofNat (n % 128 + 128) :: shortL (n / 128) else [UInt8.ofNat n]
termination_by n
decreasing_by omega
theorem shortL_big {n : Nat} (h : 128 ≤ n) : shortL n = UInt8.ofNat (n % 128 + 128) :: shortL (n / 128) := by rw [shortL, dif_pos h]
theorem shortL_small {n : Nat} (h : n < 128) : shortL n = [UInt8.ofNat n] := by rw [shortL, dif_neg (by omega)]
theorem shortL_len (n : Nat) : (shortL n).length ≤ n / 128 + 1 := by
  induction n using Nat.strongRecOn with
  | ind n ih =>
    by_cases h : 128 ≤ n
    · rw [shortL_big h]
      have := ih (n / 128) (by omega)
      simp only [List.length_cons]
      omega
    · rw [shortL_small (by omega)]; simp
theorem shortL_ten : ∀ (k n : Nat), n < 128 ^ (k + 1) → (shortL n).length ≤ k + 1
  | 0, n, h => by rw [shortL_small (by simpa using h)]; simp
  | k + 1, n, h => by
    by_cases hb : 128 ≤ n
    · rw [shortL_big hb]
      have := shortL_ten k (n / 128) (by rw [Nat.div_lt_iff_lt_mul (by omega)]; rw [Nat.pow_succ] at h; exact h)
      simp only [List.length_cons]
      omega
    · rw [shortL_small (by omega)]; simp
theorem shortL_le {n : Nat} (h : n < 18446744073709551616) : (shortL n).length ≤ 10 := shortL_ten 9 n (by omega)

/-- Bytes as cells. -/
def bc (l : List UInt8) : List Value := l.map fun b => .int .u8 (b.toNat : Int)
theorem bc_len (l : List UInt8) : (bc l).length = l.length := by simp [bc]
theorem bc_append (l r : List UInt8) : bc (l ++ r) = bc l ++ bc r := by simp [bc]

/-- Numbers near 0, with either sign, are short. -/
def zig (n : Int) : Nat := if n < 0 then ((-2 * n - 1) % 18446744073709551616).toNat else ((2 * n) % 18446744073709551616).toNat
theorem zig_lt (n : Int) : zig n < 18446744073709551616 := by unfold zig; split <;> omega

mutual
def T.form : T → List UInt8
  | .flag n => [1, UInt8.ofNat (n % 256).toNat]
  | .num n => 2 :: shortL (zig n)
  | .text s => 3 :: (shortL s.size ++ s.data.toList)
  | .list ks => 4 :: (shortL ks.length ++ formL ks)
  | .recd ns vs => 5 :: (shortL vs.length ++ formF ns vs)
def formL : List T → List UInt8
  | [] => []
  | t :: r => t.form ++ formL r
def formF : List ByteArray → List T → List UInt8
  | _, [] => []
  | ns, t :: r => shortL (ns.headD ⟨#[]⟩).size ++ (ns.headD ⟨#[]⟩).data.toList ++ t.form ++ formF ns.tail r
end

theorem formL_append (l r : List T) : formL (l ++ r) = formL l ++ formL r := by
  induction l with
  | nil => simp [formL]
  | cons t l ih => simp [formL, ih]
theorem formL_take (ks : List T) (k : Nat) (h : k < ks.length) : formL (ks.take (k + 1)) = formL (ks.take k) ++ ks[k].form := by
  rw [List.take_succ_eq_append_getElem h, formL_append]; simp [formL]
theorem formF_take : ∀ (ns : List ByteArray) (vs : List T) (k : Nat) (h : k < vs.length), formF ns (vs.take (k + 1)) = formF ns (vs.take k) ++ (shortL (ns.getD k ⟨#[]⟩).size ++ (ns.getD k ⟨#[]⟩).data.toList ++ vs[k].form)
  | _, [], k, h => by simp at h
  | ns, t :: r, 0, _ => by cases ns <;> simp [formF]
  | ns, t :: r, k + 1, h => by
    simp only [List.take_succ_cons, formF, List.getElem_cons_succ]
    rw [formF_take ns.tail r k (by simpa using h)]
    cases ns <;> simp

/-- A row that is owned has been turned, nothing else. -/
def Grow (w w' : World) (v v' : Value) : Prop := w.grownBy w' v.ownBlock ∧ (v'.ownBlock = v.ownBlock ∨ ∃ g, v'.ownBlock = some g ∧ w.heap.size ≤ g)
theorem Grow.refl (w : World) (v : Value) : Grow w w v v := ⟨⟨rfl, rfl, rfl, Nat.le_refl _, fun _ _ _ => rfl⟩, .inl rfl⟩
theorem Grow.trans {w w1 w2 : World} {v v1 v2 : Value} (h1 : Grow w w1 v v1) (h2 : Grow w1 w2 v1 v2) : Grow w w2 v v2 := by
  obtain ⟨g1, o1⟩ := h1
  obtain ⟨g2, o2⟩ := h2
  refine ⟨⟨g2.os.trans g1.os, g2.tape.trans g1.tape, g2.output.trans g1.output, Nat.le_trans g1.size g2.size, fun k hk hne => ?_⟩, ?_⟩
  · refine (g2.block k (Nat.lt_of_lt_of_le hk g1.size) fun e => ?_).trans (g1.block k hk hne)
    rcases o1 with o1 | ⟨g, hg, hge⟩
    · exact hne (e.trans o1)
    · rw [hg] at e; cases e; omega
  · rcases o2 with o2 | ⟨g, hg, hge⟩
    · rcases o1 with o1 | ⟨g, hg, hge⟩
      · exact .inl (o2.trans o1)
      · exact .inr ⟨g, o2.trans hg, hge⟩
    · exact .inr ⟨g, hg, Nat.le_trans g1.size hge⟩
theorem Grow.alloc {w w' : World} {v v' : Value} (o : Obj) (h : Grow (w.alloc o) w' v v') : Grow w w' v v' := by
  obtain ⟨g1, o1⟩ := h
  have hs : w.heap.size + 1 ≤ w'.heap.size := by have := g1.size; simpa using this
  refine ⟨⟨g1.os, g1.tape, g1.output, by omega, fun k hk hne => ?_⟩, ?_⟩
  · exact (g1.block k (by simp; omega) hne).trans (heap_alloc_old w o hk)
  · rcases o1 with o1 | ⟨g, hg, hge⟩
    · exact .inl o1
    · exact .inr ⟨g, hg, by simp at hge; omega⟩
end Go.Proofs.Ytoonjihomlkkbac
