/-
  spec.l2AtomOk.
-/
import Derived.Test.YtdjpohkionapiaaKids
namespace Go.Proofs.Ytdjpohkionapiaa
open Go.RowKit

theorem ne_empty {t : ByteArray} (h : t ≠ ⟨#[]⟩) : t.toList.isEmpty = false := by
  rw [ByteArray.toList_eq]
  cases hl : t.data.toList with
  | nil => exact absurd (ByteArray.ext (by simpa using hl)) h
  | cons _ _ => rfl

def okRec (n : Int) (t : ByteArray) (q : Int) : Prop := n = 0 ∧ t.size = 0 ∧ 0 ≤ q ∧ q % 2 = 0
def okLst (n : Int) (t : ByteArray) (q : Int) : Prop := n = 0 ∧ t.size = 0 ∧ 0 ≤ q

def BoolPost (p : Prop) (w : World) (e : Ending) (w' : World) : Prop := ∃ b, e = .returned (.bool b) ∧ (b = true ↔ p) ∧ Below w.heap.size w w'
theorem iff_no {p : Prop} (h : ¬ p) : false = true ↔ p := ⟨fun e => (by cases e), fun hp => absurd hp h⟩
theorem iff_yes {p : Prop} (h : p) : true = true ↔ p := ⟨fun _ => h, fun _ => rfl⟩
theorem below1 (w : World) (o : Obj) : Below w.heap.size w (w.alloc o) := (Below.refl _ _).alloc (Nat.le_refl _) _

set_option maxRecDepth 20000 in
set_option maxHeartbeats 1000000 in
theorem atomOk_1 (n : Int) (t : ByteArray) (q : Int) (w : World) :
    Calls Try.prog 15 #[.agg #[.int .i64 1, .int .i64 n, .string t, .int .i64 q]] w fun e w' => BoolPost (okFlag n t q) w e w' := by
  by_cases ht : t = ⟨#[]⟩
  · subst ht
    by_cases hq : q = 0
    · subst hq
      by_cases h0 : n = 0
      · subst h0
        go_enter Try.func15, Try.ntmps15
        go_wp2
        go_ret
        exact ⟨true, rfl, iff_yes ⟨rfl, rfl, .inl rfl⟩, below1 _ _⟩
      · have h0B : (n == 0) = false := by simpa using h0
        go_enter Try.func15, Try.ntmps15
        go_wp2
        go_ret
        exact ⟨n == 1, rfl, ⟨fun h => ⟨rfl, rfl, .inr (by simpa using h)⟩, fun h => by rcases h.2.2 with h | h; exact absurd h h0; simpa using h⟩, below1 _ _⟩
    · have hqB : (q != 0) = true := by simpa using hq
      go_enter Try.func15, Try.ntmps15
      go_wp2
      go_ret
      exact ⟨false, rfl, iff_no fun h => hq h.2.1, below1 _ _⟩
  · have htB := ne_empty ht
    go_enter Try.func15, Try.ntmps15
    go_wp2
    go_ret
    exact ⟨false, rfl, iff_no fun h => ht ((size_zero t).1 h.1), below1 _ _⟩

set_option maxRecDepth 20000 in
set_option maxHeartbeats 1000000 in
theorem atomOk_2 (n : Int) (t : ByteArray) (q : Int) (w : World) :
    Calls Try.prog 15 #[.agg #[.int .i64 2, .int .i64 n, .string t, .int .i64 q]] w fun e w' => BoolPost (okInt t q) w e w' := by
  by_cases ht : t = ⟨#[]⟩
  · subst ht
    by_cases hq : q = 0
    · subst hq
      go_enter Try.func15, Try.ntmps15
      go_wp2
      go_ret
      exact ⟨true, rfl, iff_yes ⟨rfl, rfl⟩, below1 _ _⟩
    · have hqB : (q != 0) = true := by simpa using hq
      go_enter Try.func15, Try.ntmps15
      go_wp2
      go_ret
      exact ⟨false, rfl, iff_no fun h => hq h.2, below1 _ _⟩
  · have htB := ne_empty ht
    go_enter Try.func15, Try.ntmps15
    go_wp2
    go_ret
    exact ⟨false, rfl, iff_no fun h => ht ((size_zero t).1 h.1), below1 _ _⟩

set_option maxRecDepth 20000 in
set_option maxHeartbeats 1000000 in
theorem atomOk_3 (n : Int) (t : ByteArray) (q : Int) (w : World) :
    Calls Try.prog 15 #[.agg #[.int .i64 3, .int .i64 n, .string t, .int .i64 q]] w fun e w' => BoolPost (okText n t q) w e w' := by
  by_cases hn : n = 0
  · subst hn
    by_cases hq : q = 0
    · subst hq
      go_enter Try.func15, Try.ntmps15
      go_wp2
      go_ret
      exact ⟨decide ((t.size : Int) ≤ 1500), rfl, ⟨fun h => ⟨rfl, rfl, by simp at h; omega⟩, fun h => by have := h.2.2; simp; omega⟩, below1 _ _⟩
    · have hqB : (q != 0) = true := by simpa using hq
      go_enter Try.func15, Try.ntmps15
      go_wp2
      go_ret
      exact ⟨false, rfl, iff_no fun h => hq h.2.1, below1 _ _⟩
  · have hnB : (n != 0) = true := by simpa using hn
    go_enter Try.func15, Try.ntmps15
    go_wp2
    go_ret
    exact ⟨false, rfl, iff_no fun h => hn h.1, below1 _ _⟩

set_option maxRecDepth 20000 in
set_option maxHeartbeats 1000000 in
theorem atomOk_4 (n : Int) (t : ByteArray) (q : Int) (w : World) :
    Calls Try.prog 15 #[.agg #[.int .i64 4, .int .i64 n, .string t, .int .i64 q]] w fun e w' => BoolPost (okLst n t q) w e w' := by
  by_cases hn : n = 0
  · subst hn
    by_cases ht : t = ⟨#[]⟩
    · subst ht
      go_enter Try.func15, Try.ntmps15
      go_wp2
      go_ret
      exact ⟨decide (0 ≤ q), rfl, ⟨fun h => ⟨rfl, rfl, by simpa using h⟩, fun h => by simpa using h.2.2⟩, below1 _ _⟩
    · have htB := ne_empty ht
      go_enter Try.func15, Try.ntmps15
      go_wp2
      go_ret
      exact ⟨false, rfl, iff_no fun h => ht ((size_zero t).1 h.2.1), below1 _ _⟩
  · have hnB : (n != 0) = true := by simpa using hn
    go_enter Try.func15, Try.ntmps15
    go_wp2
    go_ret
    exact ⟨false, rfl, iff_no fun h => hn h.1, below1 _ _⟩

set_option maxRecDepth 20000 in
set_option maxHeartbeats 1000000 in
theorem atomOk_5 (n : Int) (t : ByteArray) (q : Int) (w : World) :
    Calls Try.prog 15 #[.agg #[.int .i64 5, .int .i64 n, .string t, .int .i64 q]] w fun e w' => BoolPost (okRec n t q) w e w' := by
  by_cases hn : n = 0
  · subst hn
    by_cases ht : t = ⟨#[]⟩
    · subst ht
      by_cases h0 : 0 ≤ q
      · go_enter Try.func15, Try.ntmps15
        go_wp2
        go_ret
        exact ⟨q % 2 == 0, rfl, ⟨fun h => ⟨rfl, rfl, h0, by simpa using h⟩, fun h => by simpa using h.2.2.2⟩, below1 _ _⟩
      · have h0B : decide (0 ≤ q) = false := by simpa using h0
        go_enter Try.func15, Try.ntmps15
        go_wp2
        go_ret
        exact ⟨false, rfl, iff_no fun h => absurd h.2.2.1 (by omega), below1 _ _⟩
    · have htB := ne_empty ht
      go_enter Try.func15, Try.ntmps15
      go_wp2
      go_ret
      exact ⟨false, rfl, iff_no fun h => ht ((size_zero t).1 h.2.1), below1 _ _⟩
  · have hnB : (n != 0) = true := by simpa using hn
    go_enter Try.func15, Try.ntmps15
    go_wp2
    go_ret
    exact ⟨false, rfl, iff_no fun h => hn h.1, below1 _ _⟩

set_option maxRecDepth 20000 in
set_option maxHeartbeats 1000000 in
theorem atomOk_other (k n : Int) (t : ByteArray) (q : Int) (w : World) (h1 : k ≠ 1) (h2 : k ≠ 2) (h3 : k ≠ 3) (h4 : k ≠ 4) (h5 : k ≠ 5) :
    Calls Try.prog 15 #[.agg #[.int .i64 k, .int .i64 n, .string t, .int .i64 q]] w fun e w' => e = .returned (.bool false) ∧ Below w.heap.size w w' := by
  have h1B : (k == 1) = false := by simpa using h1
  have h2B : (k == 2) = false := by simpa using h2
  have h3B : (k == 3) = false := by simpa using h3
  have h4B : (k == 4) = false := by simpa using h4
  have h5B : (k == 5) = false := by simpa using h5
  have g1 : (k != 1) = true := by simpa using h1
  have g2 : (k != 2) = true := by simpa using h2
  have g3 : (k != 3) = true := by simpa using h3
  have g4 : (k != 4) = true := by simpa using h4
  have g5 : (k != 5) = true := by simpa using h5
  by_cases hn : n = 0
  · subst hn
    by_cases ht : t = ⟨#[]⟩
    · subst ht
      by_cases hq : q = 0
      · subst hq
        go_enter Try.func15, Try.ntmps15
        go_wp2
        go_ret
        exact ⟨rfl, below1 _ _⟩
      · have hqB : (q != 0) = true := by simpa using hq
        go_enter Try.func15, Try.ntmps15
        go_wp2
        go_ret
        exact ⟨rfl, below1 _ _⟩
    · have htB := ne_empty ht
      go_enter Try.func15, Try.ntmps15
      go_wp2
      go_ret
      exact ⟨rfl, below1 _ _⟩
  · have hnB : (n != 0) = true := by simpa using hn
    go_enter Try.func15, Try.ntmps15
    go_wp2
    go_ret
    exact ⟨rfl, below1 _ _⟩

/-- What the specification asks of an atom by itself. -/
def AtomOk (a : At) : Prop :=
  (a.kind = 1 ∧ okFlag a.n a.text a.kids) ∨ (a.kind = 2 ∧ okInt a.text a.kids) ∨ (a.kind = 3 ∧ okText a.n a.text a.kids) ∨ (a.kind = 4 ∧ okLst a.n a.text a.kids) ∨ (a.kind = 5 ∧ okRec a.n a.text a.kids)

theorem atomOk_any (a : At) (w : World) :
    Calls Try.prog 15 #[.agg #[.int .i64 a.kind, .int .i64 a.n, .string a.text, .int .i64 a.kids]] w fun e w' => BoolPost (AtomOk a) w e w' := by
  obtain ⟨k, n, t, q⟩ := a
  have fin : ∀ (p p' : Prop), (p ↔ p') → ∀ (e : Ending) (w' : World), BoolPost p w e w' → BoolPost p' w e w' := fun p p' h e w' ⟨b, h1, h2, h3⟩ => ⟨b, h1, h2.trans h, h3⟩
  simp only
  by_cases k1 : k = 1
  · subst k1; exact (atomOk_1 n t q w).mono (fin _ _ (by simp [AtomOk]))
  by_cases k2 : k = 2
  · subst k2; exact (atomOk_2 n t q w).mono (fin _ _ (by simp [AtomOk]))
  by_cases k3 : k = 3
  · subst k3; exact (atomOk_3 n t q w).mono (fin _ _ (by simp [AtomOk]))
  by_cases k4 : k = 4
  · subst k4; exact (atomOk_4 n t q w).mono (fin _ _ (by simp [AtomOk]))
  by_cases k5 : k = 5
  · subst k5; exact (atomOk_5 n t q w).mono (fin _ _ (by simp [AtomOk]))
  refine (atomOk_other k n t q w k1 k2 k3 k4 k5).mono ?_
  rintro e w' ⟨rfl, hb⟩
  exact ⟨false, rfl, iff_no (by simp [AtomOk, k1, k2, k3, k4, k5]), hb⟩
end Go.Proofs.Ytdjpohkionapiaa
