/-
  What every chain of texts leans on: rows that are owned, short numbers, bytes as cells.
-/
import Derived.Test.YtockgapdfcapnaaRows
import Derived.WalkKit
import Derived.WalkSpells
import Derived.WalkLawsBesides
import Derived.Deep.Light
import Derived.Deep.AppendLies
import Derived.Lib.AppendStr
namespace Go.Proofs.Ytockgapdfcapnaa
open Go.RowKit

theorem owns_below {w w' : World} {base : Nat} {e : TypeId} {size : Nat} {v : Value} {n : Nat} {xs : List Value} (h : w.ownsRow base e size v n xs) (hb : Below w.heap.size w w') : w'.ownsRow base e size v n xs := by
  refine ⟨h.1, ?_⟩
  rcases h.2 with h' | ⟨g, cap, cur, hv, h1, h2, h3⟩
  · exact .inl h'
  · refine .inr ⟨g, cap, cur, hv, h1, ?_, h3⟩
    rw [hb.block g (Array.getElem?_eq_some_iff.1 h2).1]; exact h2
theorem owns_row_ge {w : World} {base : Nat} {e : TypeId} {size : Nat} {v : Value} {n : Nat} {xs : List Value} (h : w.ownsRow base e size v n xs) {j : Nat} (hj : v.ownBlock = some j) : base ≤ j := by
  rcases h.2 with ⟨rfl, _⟩ | ⟨g, cap, cur, rfl, hg, _⟩
  · simp [Value.ownBlock] at hj
  · simp [Value.ownBlock] at hj; omega
theorem owns_slice {w : World} {base : Nat} {e : TypeId} {size : Nat} {v : Value} {n : Nat} {xs : List Value} (h : w.ownsRow base e size v n xs) : ∃ ad cap, v = .slice ad n cap := by
  rcases h.2 with ⟨hv, h0⟩ | ⟨g, cap, cur, hv, _⟩
  · exact ⟨none, 0, by rw [hv, h0]⟩
  · exact ⟨_, cap, hv⟩
theorem own_lt {w : World} {B : Nat} {e : TypeId} {size : Nat} {v : Value} {n : Nat} {vs : List Value} (h : w.ownsRow B e size v n vs) {g : Nat} (hg : v.ownBlock = some g) : g < w.heap.size := by
  rcases h.2 with ⟨rfl, _⟩ | ⟨g', c, cur, rfl, _, h2, _⟩
  · simp [Value.ownBlock] at hg
  · simp [Value.ownBlock] at hg
    subst hg
    exact (Array.getElem?_eq_some_iff.1 h2).1
theorem bs_same {x y : ByteArray} (h : x = y) : (x.toList == y.toList) = true := by rw [h]; simp
theorem bs_diff {x y : ByteArray} (h : x ≠ y) : (x.toList == y.toList) = false := by
  rw [ByteArray.toList_eq, ByteArray.toList_eq]
  have : x.data.toList ≠ y.data.toList := fun e => h (WideShapes.bytes_inj e)
  simpa using this
theorem wrap_u (n : Int) : IntKind.u64.wrap n = n % 18446744073709551616 := rfl
theorem owns_base {w : World} {base : Nat} {e : TypeId} {size : Nat} {v : Value} {n : Nat} {xs : List Value} (h : w.ownsRow base e size v n xs) : ∀ j, v.ownBlock = some j → base ≤ j := fun _ hj => owns_row_ge h hj
def shortF : Nat → Nat → List UInt8
  | 0, n => [UInt8.ofNat n]
  | f + 1, n => if 128 ≤ n then UInt8.ofNat (n % 128 + 128) :: shortF f (n / 128) else [UInt8.ofNat n]
theorem shortF_on : ∀ (f g n : Nat), n ≤ f → n ≤ g → shortF f n = shortF g n
  | 0, 0, n, _, _ => rfl
  | 0, g + 1, n, h, _ => by rw [shortF, shortF, if_neg (by omega)]
  | f + 1, 0, n, _, h => by rw [shortF, shortF, if_neg (by omega)]
  | f + 1, g + 1, n, h1, h2 => by
    rw [shortF, shortF]
    split
    · rw [shortF_on f g (n / 128) (by omega) (by omega)]
    · rfl
def shortL (n : Nat) : List UInt8 := shortF n n
theorem shortL_big {n : Nat} (h : 128 ≤ n) : shortL n = UInt8.ofNat (n % 128 + 128) :: shortL (n / 128) := by
  obtain ⟨m, rfl⟩ : ∃ m, n = m + 1 := ⟨n - 1, by omega⟩
  rw [shortL, shortF, if_pos h, shortF_on m ((m + 1) / 128) _ (by omega) (Nat.le_refl _)]
  rfl
theorem shortL_small {n : Nat} (h : n < 128) : shortL n = [UInt8.ofNat n] := by
  cases n with
  | zero => rfl
  | succ m => rw [shortL, shortF, if_neg (by omega)]
theorem shortL_len (n : Nat) : (shortL n).length ≤ n / 128 + 1 := by
  induction n using Nat.strongRecOn with
  | ind n ih =>
    by_cases h : 128 ≤ n
    · rw [shortL_big h]
      have := ih (n / 128) (by omega)
      simp only [List.length_cons]
      omega
    · rw [shortL_small (by omega)]; simp
theorem shortL_ten : ∀ (k n : Nat), n < 128 ^ (k + 1) → (shortL n).length ≤ k + 1
  | 0, n, h => by rw [shortL_small (by simpa using h)]; simp
  | k + 1, n, h => by
    by_cases hb : 128 ≤ n
    · rw [shortL_big hb]
      have := shortL_ten k (n / 128) (by rw [Nat.div_lt_iff_lt_mul (by omega)]; rw [Nat.pow_succ] at h; exact h)
      simp only [List.length_cons]
      omega
    · rw [shortL_small (by omega)]; simp
theorem shortL_le {n : Nat} (h : n < 18446744073709551616) : (shortL n).length ≤ 10 := shortL_ten 9 n (by omega)

/-- Bytes as cells. -/
def bc (l : List UInt8) : List Value := l.map fun b => .int .u8 (b.toNat : Int)
theorem bc_len (l : List UInt8) : (bc l).length = l.length := by simp [bc]
theorem bc_append (l r : List UInt8) : bc (l ++ r) = bc l ++ bc r := by simp [bc]

/-- A row that is owned has been turned, nothing else. -/
def Grow (w w' : World) (v v' : Value) : Prop := w.grownBy w' v.ownBlock ∧ (v'.ownBlock = v.ownBlock ∨ ∃ g, v'.ownBlock = some g ∧ w.heap.size ≤ g)
theorem Grow.refl (w : World) (v : Value) : Grow w w v v := ⟨⟨rfl, rfl, rfl, Nat.le_refl _, fun _ _ _ => rfl⟩, .inl rfl⟩
theorem Grow.trans {w w1 w2 : World} {v v1 v2 : Value} (h1 : Grow w w1 v v1) (h2 : Grow w1 w2 v1 v2) : Grow w w2 v v2 := by
  obtain ⟨g1, o1⟩ := h1
  obtain ⟨g2, o2⟩ := h2
  refine ⟨⟨g2.os.trans g1.os, g2.tape.trans g1.tape, g2.output.trans g1.output, Nat.le_trans g1.size g2.size, fun k hk hne => ?_⟩, ?_⟩
  · refine (g2.block k (Nat.lt_of_lt_of_le hk g1.size) fun e => ?_).trans (g1.block k hk hne)
    rcases o1 with o1 | ⟨g, hg, hge⟩
    · exact hne (e.trans o1)
    · rw [hg] at e; cases e; omega
  · rcases o2 with o2 | ⟨g, hg, hge⟩
    · rcases o1 with o1 | ⟨g, hg, hge⟩
      · exact .inl (o2.trans o1)
      · exact .inr ⟨g, o2.trans hg, hge⟩
    · exact .inr ⟨g, hg, Nat.le_trans g1.size hge⟩
theorem Grow.alloc {w w' : World} {v v' : Value} (o : Obj) (h : Grow (w.alloc o) w' v v') : Grow w w' v v' := by
  obtain ⟨g1, o1⟩ := h
  have hs : w.heap.size + 1 ≤ w'.heap.size := by have := g1.size; simpa using this
  refine ⟨⟨g1.os, g1.tape, g1.output, by omega, fun k hk hne => ?_⟩, ?_⟩
  · exact (g1.block k (by simp; omega) hne).trans (heap_alloc_old w o hk)
  · rcases o1 with o1 | ⟨g, hg, hge⟩
    · exact .inl o1
    · exact .inr ⟨g, hg, by simp at hge; omega⟩
end Go.Proofs.Ytockgapdfcapnaa
