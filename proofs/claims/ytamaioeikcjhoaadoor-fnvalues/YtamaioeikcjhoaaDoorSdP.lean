/-
  spec's desk, plainly: its box, short numbers read byte by byte.
-/
import Derived.Test.YtamaioeikcjhoaaDoorRdI1
namespace Go.Proofs.YtamaioeikcjhoaaDoor
open Go.RowKit

/-- What is left of a text from a place on. -/
def rst (s : ByteArray) (p : Nat) : List UInt8 := s.data.toList.drop p
theorem rst_cons {s : ByteArray} {p : Nat} (h : p < s.size) : rst s p = s[p] :: rst s (p + 1) := by
  unfold rst
  rw [List.drop_eq_getElem_cons (show p < s.data.toList.length by simpa using h)]
  rfl
theorem rst_nil {s : ByteArray} {p : Nat} (h : s.size ≤ p) : rst s p = [] := by
  unfold rst
  exact List.drop_eq_nil_of_le (by simpa using h)
theorem rst_add (s : ByteArray) (p k : Nat) : rst s (p + k) = (rst s p).drop k := by
  unfold rst; rw [List.drop_drop]
theorem rst_len (s : ByteArray) (p : Nat) : (rst s p).length = s.size - p := by
  unfold rst; rw [List.length_drop]; simp

/-- The desk in its box. -/
structure DK (b : Nat) (W : World) (s : ByteArray) (p n : Nat) (bad : Bool) : Prop where
  c0 : W.cell? ⟨b, 0, none⟩ = some (.string s)
  c1 : W.cell? ⟨b, 1, none⟩ = some (.int .i64 p)
  c2 : W.cell? ⟨b, 2, none⟩ = some (.bool bad)
  c3 : W.cell? ⟨b, 3, none⟩ = some (.int .i64 n)
  fz : ∀ j, W.frozen? ⟨b, j, none⟩ = false
theorem DK.lt {b : Nat} {W : World} {s : ByteArray} {p n : Nat} {bad : Bool} (h : DK b W s p n bad) : b < W.heap.size := lt_of_cellR h.c0
theorem DK.at {b : Nat} {W : World} {s : ByteArray} {p n : Nat} {bad : Bool} (h : DK b W s p n bad) (p' : Nat) : DK b (W.setCell ⟨b, 1, none⟩ (.int .i64 p')) s p' n bad :=
  ⟨(World.cell?_setCell_other _ _ _ _ (by simp)).trans h.c0, World.cell?_setCell_same _ _ _ h.c1, (World.cell?_setCell_other _ _ _ _ (by simp)).trans h.c2, (World.cell?_setCell_other _ _ _ _ (by simp)).trans h.c3, fun j => by simp [h.fz j]⟩
theorem DK.spoil {b : Nat} {W : World} {s : ByteArray} {p n : Nat} {bad : Bool} (h : DK b W s p n bad) : DK b (W.setCell ⟨b, 2, none⟩ (.bool true)) s p n true :=
  ⟨(World.cell?_setCell_other _ _ _ _ (by simp)).trans h.c0, (World.cell?_setCell_other _ _ _ _ (by simp)).trans h.c1, World.cell?_setCell_same _ _ _ h.c2, (World.cell?_setCell_other _ _ _ _ (by simp)).trans h.c3, fun j => by simp [h.fz j]⟩
theorem DK.cnt {b : Nat} {W : World} {s : ByteArray} {p n : Nat} {bad : Bool} (h : DK b W s p n bad) (n' : Nat) : DK b (W.setCell ⟨b, 3, none⟩ (.int .i64 n')) s p n' bad :=
  ⟨(World.cell?_setCell_other _ _ _ _ (by simp)).trans h.c0, (World.cell?_setCell_other _ _ _ _ (by simp)).trans h.c1, (World.cell?_setCell_other _ _ _ _ (by simp)).trans h.c2, World.cell?_setCell_same _ _ _ h.c3, fun j => by simp [h.fz j]⟩
theorem DK.far {b : Nat} {W W' : World} {s : ByteArray} {p n : Nat} {bad : Bool} {row : Option Nat} (h : DK b W s p n bad) (hg : W.grownBy W' row) (hr : some b ≠ row) : DK b W' s p n bad := by
  have hh := hg.block b h.lt hr
  exact ⟨(World.cell?_of_block hh).trans h.c0, (World.cell?_of_block hh).trans h.c1, (World.cell?_of_block hh).trans h.c2, (World.cell?_of_block hh).trans h.c3, fun j => frozen_ofR hh (h.fz j)⟩
theorem dk_set (W : World) (b j : Nat) (v : Value) : W.grownBy (W.setCell ⟨b, j, none⟩ v) (some b) := ⟨rfl, rfl, rfl, by simp, fun k _ hk => Below.heap_setCell _ _ _ _ (fun e => hk (by rw [e]))⟩
theorem dk_trans {w w1 w2 : World} {row : Option Nat} (h : w.grownBy w1 row) (k : w1.grownBy w2 row) : w.grownBy w2 row :=
  ⟨k.os.trans h.os, k.tape.trans h.tape, k.output.trans h.output, Nat.le_trans h.size k.size, fun i hi hne => (k.block i (Nat.lt_of_lt_of_le hi h.size) hne).trans (h.block i hi hne)⟩
theorem dk_below {w w' : World} {row : Option Nat} (h : Below w.heap.size w w') : w.grownBy w' row := ⟨h.os, h.tape, h.output, h.size, fun k hk _ => h.block k hk⟩
theorem dk_refl (w : World) (row : Option Nat) : w.grownBy w row := ⟨rfl, rfl, rfl, Nat.le_refl _, fun _ _ _ => rfl⟩
theorem dk_own {w w1 w2 : World} {g : Nat} {row : Option Nat} (h : w.grownBy w1 (some g)) (k : w1.grownBy w2 row) (hr : ∀ j, row = some j → w.heap.size ≤ j) : w.grownBy w2 (some g) :=
  ⟨k.os.trans h.os, k.tape.trans h.tape, k.output.trans h.output, Nat.le_trans h.size k.size, fun i hi hne => (k.block i (Nat.lt_of_lt_of_le hi h.size) (fun e => by have := hr i e.symm; omega)).trans (h.block i hi hne)⟩
theorem dk_alloc {w w1 : World} {g : Nat} (o : Obj) (h : w.grownBy w1 (some g)) : w.grownBy (w1.alloc o) (some g) :=
  dk_trans h (dk_below ((Below.refl _ _).alloc (Nat.le_refl _) o))
theorem dk_drew {w w1 : World} {row : Option Nat} (h : w.grownBy w1 row) : w.grownBy w1.drew row := ⟨h.os, h.tape, h.output, h.size, h.block⟩
theorem dk_row {w w' : World} {g base : Nat} {e : TypeId} {size : Nat} {v : Value} {n : Nat} {xs : List Value} (h : w.ownsRow base e size v n xs) (hg : w.grownBy w' (some g)) (hb : g < base) : w'.ownsRow base e size v n xs := by
  refine ⟨h.1, ?_⟩
  rcases h.2 with h' | ⟨k, cap, cur, hv, h1, h2, h3⟩
  · exact .inl h'
  · refine .inr ⟨k, cap, cur, hv, h1, ?_, h3⟩
    rw [hg.block k (Array.getElem?_eq_some_iff.1 h2).1 (by simp; omega)]; exact h2
theorem dk_low {w : World} {base base' : Nat} {e : TypeId} {size : Nat} {v : Value} {n : Nat} {xs : List Value} (h : w.ownsRow base e size v n xs) (hb : base' ≤ base) : w.ownsRow base' e size v n xs := by
  refine ⟨h.1, ?_⟩
  rcases h.2 with h' | ⟨k, cap, cur, hv, h1, h2⟩
  · exact .inl h'
  · exact .inr ⟨k, cap, cur, hv, by omega, h2⟩

/-- Where a short number is being read: k bytes of it are, they come to a. -/
def ShI (s : ByteArray) (p0 p k a : Nat) : Prop := ∀ q r, q < 18446744073709551616 → rst s p0 = shortL q ++ r → ∃ q', rst s p = shortL q' ++ r ∧ q = a + q' * 128 ^ k ∧ (0 < k → 0 < q')
theorem ShI.start (s : ByteArray) (p : Nat) : ShI s p p 0 0 := fun q r _ h => ⟨q, h, by simp, fun h => by omega⟩
theorem ShI.low {s : ByteArray} {p0 p k a : Nat} (h : ShI s p0 p k a) (hp : p < s.size) (hc : s[p].toNat < 128) {q : Nat} {r : List UInt8} (hq : q < 18446744073709551616) (he : rst s p0 = shortL q ++ r) :
    q = (a + s[p].toNat % 128 * 128 ^ k) ∧ rst s (p + 1) = r := by
  obtain ⟨q', h1, h2, h3⟩ := h q r hq he
  rw [rst_cons hp] at h1
  rcases Nat.lt_or_ge q' 128 with hl | hl
  · rw [shortL_small hl] at h1
    simp at h1
    have hb : s[p].toNat = q' := by rw [h1.1]; simp; omega
    refine ⟨?_, h1.2⟩
    rw [h2, hb, Nat.mod_eq_of_lt hl]
  · exfalso
    rw [shortL_big hl] at h1
    simp at h1
    have hb : s[p].toNat = q' % 128 + 128 := by rw [h1.1]; simp; omega
    omega
theorem ShI.high {s : ByteArray} {p0 p k a : Nat} (h : ShI s p0 p k a) (hp : p < s.size) (hc : ¬ s[p].toNat < 128) {a' : Nat} (ha : a' = (a + s[p].toNat % 128 * 128 ^ k) % 18446744073709551616) : ShI s p0 (p + 1) (k + 1) a' := by
  intro q r hq he
  obtain ⟨q', h1, h2, h3⟩ := h q r hq he
  rw [rst_cons hp] at h1
  rcases Nat.lt_or_ge q' 128 with hl | hl
  · exfalso
    rw [shortL_small hl] at h1
    simp at h1
    have hb : s[p].toNat = q' := by rw [h1.1]; simp; omega
    omega
  · rw [shortL_big hl] at h1
    simp at h1
    have hb : s[p].toNat = q' % 128 + 128 := by rw [h1.1]; simp; omega
    refine ⟨q' / 128, h1.2, ?_, fun _ => by omega⟩
    have hm : q' * 128 ^ k = q' % 128 * 128 ^ k + q' / 128 * 128 ^ (k + 1) := by
      rw [Nat.pow_succ, ← Nat.mul_assoc, Nat.mul_right_comm, ← Nat.add_mul]
      congr 1
      omega
    have hb2 : s[p].toNat % 128 = q' % 128 := by omega
    rw [ha, hb2, Nat.mod_eq_of_lt (by omega)]
    omega
theorem ShI.ends {s : ByteArray} {p0 p k a : Nat} (h : ShI s p0 p k a) (he : k = 10 ∨ s.size ≤ p) {q : Nat} {r : List UInt8} (hq : q < 18446744073709551616) : rst s p0 ≠ shortL q ++ r := by
  intro e
  obtain ⟨q', h1, h2, h3⟩ := h q r hq e
  rcases he with rfl | hp
  · have := h3 (by omega)
    have : 1 * 128 ^ 10 ≤ q' * 128 ^ 10 := Nat.mul_le_mul_right _ (by omega)
    omega
  · rw [rst_nil hp] at h1
    rcases Nat.lt_or_ge q' 128 with hl | hl
    · rw [shortL_small hl] at h1; simp at h1
    · rw [shortL_big hl] at h1; simp at h1

/-- What reading a short number comes to. -/
def ShP (b : Nat) (W : World) (s : ByteArray) (p n : Nat) (bad : Bool) (e : Ending) (W' : World) : Prop :=
  ∃ (m p' : Nat) (bad' : Bool), e = .returned (.int .u64 m) ∧ W.grownBy W' (some b) ∧ DK b W' s p' n bad' ∧ m < 18446744073709551616 ∧ p ≤ p' ∧ p' ≤ s.size ∧ (bad = true → bad' = true) ∧ RKeep (∀ q r, q < 18446744073709551616 → rst s p = shortL q ++ r → m = q ∧ rst s p' = r ∧ bad' = bad)
end Go.Proofs.YtamaioeikcjhoaaDoor
