/-
  spec's desk, plainly: what a tree's form tells by its first byte; the state of a value in the making.
-/
import Derived.Test.YtamaioeikcjhoaaDoorSdP
namespace Go.Proofs.YtamaioeikcjhoaaDoor
open Go.RowKit

theorem fh_1 {t : T} {r l : List UInt8} (h : t.good) (e : 1 :: l = t.form ++ r) : ∃ n : Nat, t = .flag n ∧ n ≤ 1 ∧ l = shortL n ++ r := by
  cases t using T.five with
  | flag n =>
    rw [T.good] at h
    rw [T.form] at e
    rcases h with rfl | rfl
    · exact ⟨0, rfl, by omega, by rw [shortL_small (by omega)]; simpa using e⟩
    · exact ⟨1, rfl, by omega, by rw [shortL_small (by omega)]; simpa using e⟩
  | num n => rw [T.form] at e; simp at e
  | text q => rw [T.form] at e; simp at e
  | list ks => rw [T.form] at e; simp at e
  | recd ns vs => rw [T.form] at e; simp at e
theorem fh_2 {t : T} {r l : List UInt8} (h : t.good) (e : 2 :: l = t.form ++ r) : ∃ n : Int, t = .num n ∧ -9223372036854775808 ≤ n ∧ n < 9223372036854775808 ∧ l = shortL (zig n) ++ r := by
  cases t using T.five with
  | flag n => rw [T.form] at e; simp at e
  | num n =>
    rw [T.good] at h
    rw [T.form] at e
    exact ⟨n, rfl, h.1, h.2, by simpa using e⟩
  | text q => rw [T.form] at e; simp at e
  | list ks => rw [T.form] at e; simp at e
  | recd ns vs => rw [T.form] at e; simp at e
theorem fh_3 {t : T} {r l : List UInt8} (e : 3 :: l = t.form ++ r) : ∃ q : ByteArray, t = .text q ∧ l = shortL q.size ++ (q.data.toList ++ r) := by
  cases t using T.five with
  | flag n => rw [T.form] at e; simp at e
  | num n => rw [T.form] at e; simp at e
  | text q => rw [T.form] at e; exact ⟨q, rfl, by simpa using e⟩
  | list ks => rw [T.form] at e; simp at e
  | recd ns vs => rw [T.form] at e; simp at e
theorem fh_4 {t : T} {r l : List UInt8} (e : 4 :: l = t.form ++ r) : ∃ ks : List T, t = .list ks ∧ l = shortL ks.length ++ (formL ks ++ r) := by
  cases t using T.five with
  | flag n => rw [T.form] at e; simp at e
  | num n => rw [T.form] at e; simp at e
  | text q => rw [T.form] at e; simp at e
  | list ks => rw [T.form_list] at e; exact ⟨ks, rfl, by simpa using e⟩
  | recd ns vs => rw [T.form] at e; simp at e
theorem fh_5 {t : T} {r l : List UInt8} (e : 5 :: l = t.form ++ r) : ∃ (ns : List ByteArray) (vs : List T), t = .recd ns vs ∧ l = shortL vs.length ++ (formF ns vs ++ r) := by
  cases t using T.five with
  | flag n => rw [T.form] at e; simp at e
  | num n => rw [T.form] at e; simp at e
  | text q => rw [T.form] at e; simp at e
  | list ks => rw [T.form] at e; simp at e
  | recd ns vs => rw [T.form_recd] at e; exact ⟨ns, vs, rfl, by simpa using e⟩
theorem fh_no {t : T} {r l : List UInt8} {c : UInt8} (e : c :: l = t.form ++ r) : c = 1 ∨ c = 2 ∨ c = 3 ∨ c = 4 ∨ c = 5 := by
  cases t using T.five <;> rw [T.form] at e <;> simp at e <;> simp [e.1]
theorem form_ne (t : T) : t.form ≠ [] := by cases t using T.five <;> rw [T.form] <;> simp
theorem totalA_append (xs ys : List At) : totalA (xs ++ ys) = totalA xs + totalA ys := by simp [totalA]
theorem inr_append {xs ys : List At} (h : InR xs) (k : InR ys) : InR (xs ++ ys) := fun a ha => by
  rcases List.mem_append.1 ha with h' | h'
  · exact h a h'
  · exact k a h'
theorem inr_one {a : At} (h : -9223372036854775808 ≤ a.n ∧ a.n < 9223372036854775808) : InR [a] := fun x hx => by
  obtain rfl : x = a := by simpa using hx
  exact h
theorem acells_append (xs ys : List At) : acells (xs ++ ys) = acells xs ++ acells ys := by simp [acells]
theorem acells_one (xs : List At) : ∀ u ∈ acells xs, u.oneCell' = true := by
  intro u hu
  obtain ⟨a, _, ha⟩ := List.mem_flatMap.1 hu
  exact one_4 a u ha

/-- A value in the making: the desk, the atom in its box, the atoms so far. -/
structure DM (b : Nat) (W0 : World) (s : ByteArray) (p0 n0 ab : Nat) (a : At) (wr : World) (v : Value) (ys : List At) (p n : Nat) (bad : Bool) : Prop where
  dk : DK b wr s p n bad
  gr : W0.grownBy wr (some b)
  row : wr.ownsRow (ab + 1) 66 4 v ys.length (acells ys)
  a0 : wr.cell? ⟨ab, 0, none⟩ = some (.int .i64 a.kind)
  a1 : wr.cell? ⟨ab, 1, none⟩ = some (.int .i64 a.n)
  a2 : wr.cell? ⟨ab, 2, none⟩ = some (.string a.text)
  a3 : wr.cell? ⟨ab, 3, none⟩ = some (.int .i64 a.kids)
  af : ∀ j, wr.frozen? ⟨ab, j, none⟩ = false
  ge : W0.heap.size ≤ ab
  lt : b < W0.heap.size
  le : p0 + totalA ys ≤ p
  ps : p ≤ s.size
  nn : n0 + ys.length ≤ n
  n2 : n ≤ 302
  n3 : bad = false → n ≤ 301
  inr : InR ys

theorem DM.call {b : Nat} {W0 : World} {s : ByteArray} {p0 n0 ab : Nat} {a : At} {wr : World} {v : Value} {ys : List At} {p n : Nat} {bad : Bool} (h : DM b W0 s p0 n0 ab a wr v ys p n bad) {w' : World} {p' n' : Nat} {bad' : Bool} (hg : wr.grownBy w' (some b)) (hd : DK b w' s p' n' bad') (hp : p ≤ p') (hps : p' ≤ s.size) (hn : n ≤ n') (hn2 : n' ≤ 302) (hn3 : bad' = false → n' ≤ 301) : DM b W0 s p0 n0 ab a w' v ys p' n' bad' := by
  have hne : some ab ≠ some b := by have := h.ge; have := h.lt; simp; omega
  have hal : ab < wr.heap.size := lt_of_cellR h.a0
  have hh := hg.block ab hal hne
  exact ⟨hd, dk_trans h.gr hg, dk_row h.row hg (by have := h.ge; have := h.lt; omega), (World.cell?_of_block hh).trans h.a0, (World.cell?_of_block hh).trans h.a1, (World.cell?_of_block hh).trans h.a2, (World.cell?_of_block hh).trans h.a3, fun j => frozen_ofR hh (h.af j), h.ge, h.lt, by have := h.le; omega, hps, by have := h.nn; omega, hn2, hn3, h.inr⟩
theorem DM.abne {b : Nat} {W0 : World} {s : ByteArray} {p0 n0 ab : Nat} {a : At} {wr : World} {v : Value} {ys : List At} {p n : Nat} {bad : Bool} (h : DM b W0 s p0 n0 ab a wr v ys p n bad) : v.ownBlock ≠ some ab := fun e => by have := owns_base h.row ab e; omega
/-- The atom's box is written. -/
theorem DM.box {b : Nat} {W0 : World} {s : ByteArray} {p0 n0 ab : Nat} {a a' : At} {wr : World} {v : Value} {ys : List At} {p n : Nat} {bad : Bool} (h : DM b W0 s p0 n0 ab a wr v ys p n bad) {w' : World} (hg : wr.grownBy w' (some ab)) (e0 : w'.cell? ⟨ab, 0, none⟩ = some (.int .i64 a'.kind)) (e1 : w'.cell? ⟨ab, 1, none⟩ = some (.int .i64 a'.n)) (e2 : w'.cell? ⟨ab, 2, none⟩ = some (.string a'.text)) (e3 : w'.cell? ⟨ab, 3, none⟩ = some (.int .i64 a'.kids)) (ef : ∀ j, w'.frozen? ⟨ab, j, none⟩ = false) : DM b W0 s p0 n0 ab a' w' v ys p n bad := by
  have hne : some b ≠ some ab := by have := h.ge; have := h.lt; simp; omega
  refine ⟨h.dk.far hg hne, dk_own h.gr hg (fun j e => by cases e; exact h.ge), h.row.kept hg (Or.inr h.abne), e0, e1, e2, e3, ef, h.ge, h.lt, h.le, h.ps, h.nn, h.n2, h.n3, h.inr⟩
theorem DM.setN {b : Nat} {W0 : World} {s : ByteArray} {p0 n0 ab : Nat} {a : At} {wr : World} {v : Value} {ys : List At} {p n : Nat} {bad : Bool} (h : DM b W0 s p0 n0 ab a wr v ys p n bad) (z : Int) : DM b W0 s p0 n0 ab ⟨a.kind, z, a.text, a.kids⟩ (wr.setCell ⟨ab, 1, none⟩ (.int .i64 z)) v ys p n bad :=
  h.box (dk_set _ _ _ _) ((World.cell?_setCell_other _ _ _ _ (by simp)).trans h.a0) (World.cell?_setCell_same _ _ _ h.a1) ((World.cell?_setCell_other _ _ _ _ (by simp)).trans h.a2) ((World.cell?_setCell_other _ _ _ _ (by simp)).trans h.a3) (fun j => by simp [h.af j])
theorem DM.setT {b : Nat} {W0 : World} {s : ByteArray} {p0 n0 ab : Nat} {a : At} {wr : World} {v : Value} {ys : List At} {p n : Nat} {bad : Bool} (h : DM b W0 s p0 n0 ab a wr v ys p n bad) (z : ByteArray) : DM b W0 s p0 n0 ab ⟨a.kind, a.n, z, a.kids⟩ (wr.setCell ⟨ab, 2, none⟩ (.string z)) v ys p n bad :=
  h.box (dk_set _ _ _ _) ((World.cell?_setCell_other _ _ _ _ (by simp)).trans h.a0) ((World.cell?_setCell_other _ _ _ _ (by simp)).trans h.a1) (World.cell?_setCell_same _ _ _ h.a2) ((World.cell?_setCell_other _ _ _ _ (by simp)).trans h.a3) (fun j => by simp [h.af j])
theorem DM.setK {b : Nat} {W0 : World} {s : ByteArray} {p0 n0 ab : Nat} {a : At} {wr : World} {v : Value} {ys : List At} {p n : Nat} {bad : Bool} (h : DM b W0 s p0 n0 ab a wr v ys p n bad) (z : Int) : DM b W0 s p0 n0 ab ⟨a.kind, a.n, a.text, z⟩ (wr.setCell ⟨ab, 3, none⟩ (.int .i64 z)) v ys p n bad :=
  h.box (dk_set _ _ _ _) ((World.cell?_setCell_other _ _ _ _ (by simp)).trans h.a0) ((World.cell?_setCell_other _ _ _ _ (by simp)).trans h.a1) ((World.cell?_setCell_other _ _ _ _ (by simp)).trans h.a2) (World.cell?_setCell_same _ _ _ h.a3) (fun j => by simp [h.af j])
/-- Atoms are appended. -/
theorem DM.app {b : Nat} {W0 : World} {s : ByteArray} {p0 n0 ab : Nat} {a : At} {wr : World} {v : Value} {ys : List At} {p n : Nat} {bad : Bool} (h : DM b W0 s p0 n0 ab a wr v ys p n bad) {w1 w2 : World} {v2 : Value} {zs : List At} {p' n' : Nat} {bad' : Bool} (h1 : DM b W0 s p0 n0 ab a w1 v ys p' n' bad') (hg : w1.grownBy w2 v.ownBlock) (hown : w2.ownsRow (ab + 1) 66 4 v2 (ys.length + zs.length) (acells ys ++ acells zs)) (hz : InR zs) (hp : p + totalA zs ≤ p') (hn : n + zs.length ≤ n') : DM b W0 s p0 n0 ab a w2 v2 (ys ++ zs) p' n' bad' := by
  have hbn : some b ≠ v.ownBlock := fun e => by have := owns_base h.row b e.symm; have := h.ge; have := h.lt; omega
  have hal : ab < w1.heap.size := lt_of_cellR h1.a0
  have hh := hg.block ab hal (fun e => h.abne e.symm)
  refine ⟨h1.dk.far hg hbn, dk_own h1.gr hg (fun j e => by have := owns_base h.row j e; have := h.ge; omega), ?_, (World.cell?_of_block hh).trans h1.a0, (World.cell?_of_block hh).trans h1.a1, (World.cell?_of_block hh).trans h1.a2, (World.cell?_of_block hh).trans h1.a3, fun j => frozen_ofR hh (h1.af j), h.ge, h.lt, ?_, h1.ps, ?_, h1.n2, h1.n3, inr_append h.inr hz⟩
  · rw [List.length_append, acells_append]; exact hown
  · rw [totalA_append]; have := h.le; omega
  · rw [List.length_append]; have := h.nn; omega

/-- What reading a value comes to where a tree's form stands there. -/
def VF (s : ByteArray) (p n f : Nat) (xs : List At) (p' n' : Nat) (bad' : Bool) : Prop := ∀ t r, T.good t → t.nest < f → rst s p = t.form ++ r → n + t.atoms.length ≤ 300 → xs = t.atoms ∧ bad' = false ∧ n' = n + t.atoms.length ∧ rst s p' = r
def DPost (b : Nat) (W : World) (s : ByteArray) (p n f : Nat) (bad : Bool) (e : Ending) (W' : World) : Prop :=
  ∃ (g cap : Nat) (xs : List At) (p' n' : Nat) (bad' : Bool), e = .returned (.slice (some ⟨g, 0, none⟩) xs.length cap) ∧ W.grownBy W' (some b) ∧ DK b W' s p' n' bad' ∧ W'.ownsRow W.heap.size 66 4 (.slice (some ⟨g, 0, none⟩) xs.length cap) xs.length (acells xs) ∧ p + totalA xs ≤ p' ∧ p' ≤ s.size ∧ n + xs.length ≤ n' ∧ n' ≤ 302 ∧ (bad' = false → n' ≤ 300) ∧ InR xs ∧ (bad = true → bad' = true) ∧ RKeep (bad = false → VF s p n f xs p' n' bad')
def ValS (b f : Nat) (z : Int) : Prop := ∀ (W : World) (s : ByteArray) (p n : Nat) (bad : Bool), DK b W s p n bad → p ≤ s.size → s.size ≤ 100000 → n ≤ 301 → Calls Tryd.prog 15 #[.pointer (some ⟨b, 0, none⟩), .int .i64 z] W fun e W' => DPost b W s p n f bad e W'

/-- A value in the making is finished. -/
theorem DM.post {b : Nat} {W0 : World} {s : ByteArray} {p0 n0 ab f : Nat} {a : At} {wr w1 w2 : World} {v : Value} {ys : List At} {p n : Nat} {bad : Bool} {g cap : Nat} (h : DM b W0 s (p0 + 1) (n0 + 1) ab a wr v ys p n bad) (h1 : Below wr.heap.size wr w1) (hg : w1.grownBy w2 v.ownBlock) (hown : w2.ownsRow (ab + 1) 66 4 (.slice (some ⟨g, 0, none⟩) (ys.length + 1) cap) (ys.length + 1) (acells ys ++ a.cells)) (ha : -9223372036854775808 ≤ a.n ∧ a.n < 9223372036854775808) (ht : p0 + 1 + totalA ys + a.text.size ≤ p) (h300 : bad = false → n ≤ 300) (hv : VF s p0 n0 f (ys ++ [a]) p n bad) : DPost b W0 s p0 n0 f false (.returned (.slice (some ⟨g, 0, none⟩) (ys.length + 1) cap)) w2 := by
  have hbn : some b ≠ v.ownBlock := fun e => by have := owns_base h.row b e.symm; have := h.ge; have := h.lt; omega
  have hg1 : wr.grownBy w1 (some b) := dk_below h1
  have hd1 : DK b w1 s p n bad := h.dk.far (row := none) (dk_below h1) (by simp)
  have hl : (ys ++ [a]).length = ys.length + 1 := by simp
  have hc : acells (ys ++ [a]) = acells ys ++ a.cells := acells_snoc ys a
  refine ⟨g, cap, ys ++ [a], p, n, bad, by rw [hl], dk_own (dk_trans h.gr hg1) hg (fun j e => by have := owns_base h.row j e; have := h.ge; omega), hd1.far hg hbn, by rw [hl, hc]; exact dk_low hown (by have := h.ge; omega), ?_, h.ps, ?_, h.n2, h300, inr_append h.inr (inr_one ha), (by intro h; cases h), ⟨fun _ => hv⟩⟩
  · have h5 : totalA [a] = a.text.size := by simp [totalA]
    rw [totalA_append, h5]; omega
  · rw [hl]; have := h.nn; omega
end Go.Proofs.YtamaioeikcjhoaaDoor
