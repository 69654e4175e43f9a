/-
  impl's parts: how they lie in memory, and the contracts of impl.partOf, impl.fieldsOf, impl.outermost, nest.
-/
import Derived.Test.YtdjpohkionapiaaAtoms
import Derived.Laws.StructEq
namespace Go.Proofs.Ytdjpohkionapiaa
open Go.RowKit

theorem bytes_eq_iff (s s' : ByteArray) : s.toList = s'.toList ↔ s = s' := by
  rw [ByteArray.toList_eq, ByteArray.toList_eq]
  exact ⟨fun h => WideShapes.bytes_inj h, fun h => by rw [h]⟩

theorem eq_atom (k n q k' n' q' : Int) (s s' : ByteArray) (w : World) : (binOp .eql 41 (.agg #[.int .i64 k, .int .i64 n, .string s, .int .i64 q]) (.agg #[.int .i64 k', .int .i64 n', .string s', .int .i64 q'])).run Try.prog w = .ok (.bool (decide (k = k' ∧ n = n' ∧ s = s' ∧ q = q'))) w := by
  have hu : Try.prog.underlying 41 = some (.struct (Try.prog.fieldsOf 41)) := by kernel_rfl
  have hs : Try.prog.stoodInHeld 41 = false := by kernel_rfl
  rw [run_eql_struct, run_equalIn_struct w 9999 41 _ _ hu hs]
  have hf : (Try.prog.fieldsOf 41).toList = [{ name := "Kind", type := 3, offset := 0, embedded := false, tag := "", pkgPath := "", byteOffset := 0 }, { name := "N", type := 2, offset := 1, embedded := false, tag := "", pkgPath := "", byteOffset := 8 }, { name := "Text", type := 9, offset := 2, embedded := false, tag := "", pkgPath := "", byteOffset := 16 }, { name := "Kids", type := 3, offset := 3, embedded := false, tag := "", pkgPath := "", byteOffset := 32 }] := by kernel_rfl
  rw [hf]
  simp [Op.eqFields, go_sem, bytes_eq_iff]
  by_cases h1 : k = k' <;> by_cases h2 : n = n' <;> by_cases h3 : s = s' <;> by_cases h4 : q = q' <;> simp [h1, h2, h3, h4]

theorem eqGuardAtom : Try.prog.eqGuardType Try.prog.depth 41 = false := by kernel_rfl

theorem size_zero (t : ByteArray) : t.size = 0 ↔ t = ⟨#[]⟩ := by
  constructor
  · intro h; apply ByteArray.ext; exact Array.eq_empty_of_size_eq_zero h
  · intro h; rw [h]; rfl

def okFlag (n : Int) (t : ByteArray) (q : Int) : Prop := t.size = 0 ∧ q = 0 ∧ (n = 0 ∨ n = 1)
def okInt (t : ByteArray) (q : Int) : Prop := t.size = 0 ∧ q = 0
def okText (n : Int) (t : ByteArray) (q : Int) : Prop := n = 0 ∧ q = 0 ∧ t.size ≤ 1500

theorem dcd {p : Prop} [Decidable p] {b : Bool} (h : b = true ↔ p) : decide p = b := by
  cases b with
  | true => exact decide_eq_true (h.1 rfl)
  | false => exact decide_eq_false fun hp => by simpa using h.2 hp

set_option maxHeartbeats 1000000 in
theorem partOf_flag (n : Int) (t : ByteArray) (q : Int) (ad : Option Addr) (l cap : Nat) (w : World) :
    Calls Try.prog 22 #[.agg #[.int .i64 1, .int .i64 n, .string t, .int .i64 q], .slice ad l cap] w fun e w' => ∃ b, e = .returned (.tuple #[.iface 63 (.agg #[.int .i64 n]), .bool b]) ∧ (b = true ↔ okFlag n t q) ∧ Below w.heap.size w w' := by
  have hg := eqGuardAtom
  by_cases h : t = ⟨#[]⟩ ∧ q = 0
  · have heq : ∀ w, (binOp .eql 41 (.agg #[.int .i64 1, .int .i64 n, .string t, .int .i64 q]) (.agg #[.int .i64 1, .int .i64 n, .string ⟨#[]⟩, .int .i64 0])).run Try.prog w = .ok (.bool true) w := fun w => by rw [eq_atom]; simp [h.1, h.2]
    obtain ⟨rfl, rfl⟩ := h
    by_cases h0 : n = 0
    · subst h0
      go_enter Try.func22, Try.ntmps22
      go_wp2
      go_quiet (fail)
      go_wp2
      go_ret2
      exact ⟨true, rfl, ⟨fun _ => ⟨rfl, rfl, .inl rfl⟩, fun _ => rfl⟩, below_drewN ((Below.refl _ _).alloc (Nat.le_refl _) _) _⟩
    · have h0B : (n == 0) = false := by simpa using h0
      go_enter Try.func22, Try.ntmps22
      go_wp2
      go_quiet (fail)
      go_wp2
      go_ret2
      exact ⟨n == 1, rfl, ⟨fun h => ⟨rfl, rfl, .inr (by simpa using h)⟩, fun h => by rcases h.2.2 with h | h; exact absurd h h0; simpa using h⟩, below_drewN ((Below.refl _ _).alloc (Nat.le_refl _) _) _⟩
  · have heq : ∀ w, (binOp .eql 41 (.agg #[.int .i64 1, .int .i64 n, .string t, .int .i64 q]) (.agg #[.int .i64 1, .int .i64 n, .string ⟨#[]⟩, .int .i64 0])).run Try.prog w = .ok (.bool false) w := fun w => by rw [eq_atom]; simp; exact fun h1 h2 => h ⟨h1, h2⟩
    go_enter Try.func22, Try.ntmps22
    go_wp2
    go_quiet (fail)
    go_wp2
    go_ret2
    exact ⟨false, rfl, ⟨fun h => by simp at h, fun hh => absurd ⟨(size_zero t).1 hh.1, hh.2.1⟩ h⟩, below_drewN ((Below.refl _ _).alloc (Nat.le_refl _) _) _⟩

set_option maxHeartbeats 1000000 in
theorem partOf_int (n : Int) (t : ByteArray) (q : Int) (ad : Option Addr) (l cap : Nat) (w : World) :
    Calls Try.prog 22 #[.agg #[.int .i64 2, .int .i64 n, .string t, .int .i64 q], .slice ad l cap] w fun e w' => ∃ b, e = .returned (.tuple #[.iface 64 (.agg #[.int .i64 n]), .bool b]) ∧ (b = true ↔ okInt t q) ∧ Below w.heap.size w w' := by
  have hg := eqGuardAtom
  have heq : ∀ w, (binOp .eql 41 (.agg #[.int .i64 2, .int .i64 n, .string t, .int .i64 q]) (.agg #[.int .i64 2, .int .i64 n, .string ⟨#[]⟩, .int .i64 0])).run Try.prog w = .ok (.bool (decide (t = ⟨#[]⟩ ∧ q = 0))) w := fun w => by rw [eq_atom]; simp
  go_enter Try.func22, Try.ntmps22
  go_wp2
  go_quiet (fail)
  go_wp2
  go_ret2
  refine ⟨decide (t = ⟨#[]⟩ ∧ q = 0), ?_, ?_, below_drewN ((Below.refl _ _).alloc (Nat.le_refl _) _) _⟩
  · first | rfl | simp
  · unfold okInt; rw [decide_eq_true_iff, size_zero]

set_option maxHeartbeats 1000000 in
theorem partOf_text (n : Int) (t : ByteArray) (q : Int) (ad : Option Addr) (l cap : Nat) (w : World) (_ht : t.size ≤ maxLen) :
    Calls Try.prog 22 #[.agg #[.int .i64 3, .int .i64 n, .string t, .int .i64 q], .slice ad l cap] w fun e w' => ∃ b, e = .returned (.tuple #[.iface 66 (.agg #[.string t]), .bool b]) ∧ (b = true ↔ okText n t q) ∧ Below w.heap.size w w' := by
  have hg := eqGuardAtom
  by_cases h : n = 0 ∧ q = 0
  · have heq : ∀ w, (binOp .eql 41 (.agg #[.int .i64 3, .int .i64 n, .string t, .int .i64 q]) (.agg #[.int .i64 3, .int .i64 0, .string t, .int .i64 0])).run Try.prog w = .ok (.bool true) w := fun w => by rw [eq_atom]; simp [h.1, h.2]
    obtain ⟨rfl, rfl⟩ := h
    go_enter Try.func22, Try.ntmps22
    go_wp2
    go_quiet (fail)
    go_wp2
    go_ret2
    exact ⟨decide ((t.size : Int) ≤ 1500), rfl, ⟨fun h => ⟨rfl, rfl, by simp at h; omega⟩, fun h => by have := h.2.2; simp; omega⟩, below_drewN ((Below.refl _ _).alloc (Nat.le_refl _) _) _⟩
  · have heq : ∀ w, (binOp .eql 41 (.agg #[.int .i64 3, .int .i64 n, .string t, .int .i64 q]) (.agg #[.int .i64 3, .int .i64 0, .string t, .int .i64 0])).run Try.prog w = .ok (.bool false) w := fun w => by rw [eq_atom]; simp; exact fun h1 h2 => h ⟨h1, h2⟩
    go_enter Try.func22, Try.ntmps22
    go_wp2
    go_quiet (fail)
    go_wp2
    go_ret2
    exact ⟨false, rfl, ⟨fun h => by simp at h, fun hh => absurd ⟨hh.1, hh.2.1⟩ h⟩, below_drewN ((Below.refl _ _).alloc (Nat.le_refl _) _) _⟩

set_option maxHeartbeats 1000000 in
theorem partOf_other (k n : Int) (t : ByteArray) (q : Int) (ad : Option Addr) (l cap : Nat) (w : World) (h1 : k ≠ 1) (h2 : k ≠ 2) (h3 : k ≠ 3) (h4 : k ≠ 4) (h5 : k ≠ 5) :
    Calls Try.prog 22 #[.agg #[.int .i64 k, .int .i64 n, .string t, .int .i64 q], .slice ad l cap] w fun e w' => e = .returned (.tuple #[.nilIface, .bool false]) ∧ Below w.heap.size w w' := by
  have h1B : (k == 1) = false := by simpa using h1
  have h2B : (k == 2) = false := by simpa using h2
  have h3B : (k == 3) = false := by simpa using h3
  have h4B : (k == 4) = false := by simpa using h4
  have h5B : (k == 5) = false := by simpa using h5
  go_enter Try.func22, Try.ntmps22
  go_wp2
  go_ret2
  exact ⟨rfl, (Below.refl _ _).alloc (Nat.le_refl _) _⟩
end Go.Proofs.Ytdjpohkionapiaa
