/-
  The form of a tree, plainly. No program is named here.
-/
import Derived.Test.YtamaioeikcjhoaaDoorSpecValid
import Derived.Test.YtamaioeikcjhoaaDoorBase
namespace Go.Proofs.YtamaioeikcjhoaaDoor
open Go.RowKit

/-- Numbers near 0, with either sign, are short. -/
def zig (n : Int) : Nat := if n < 0 then ((-2 * n - 1) % 18446744073709551616).toNat else ((2 * n) % 18446744073709551616).toNat
theorem zig_lt (n : Int) : zig n < 18446744073709551616 := by unfold zig; split <;> omega

def flds : List ByteArray → List (List UInt8) → List UInt8
  | _, [] => []
  | ns, x :: r => shortL (ns.headD ⟨#[]⟩).size ++ (ns.headD ⟨#[]⟩).data.toList ++ x ++ flds ns.tail r
def T.form : T → List UInt8
  | ⟨.inl (.inl n)⟩ => [1, UInt8.ofNat (n % 256).toNat]
  | ⟨.inl (.inr n)⟩ => 2 :: shortL (zig n)
  | ⟨.inr (.inl s)⟩ => 3 :: (shortL s.size ++ s.data.toList)
  | ⟨.inr (.inr (.inl ks))⟩ => 4 :: (shortL ks.length ++ (ks.map fun k => k.form).flatten)
  | ⟨.inr (.inr (.inr (ns, vs)))⟩ => 5 :: (shortL vs.length ++ flds ns (vs.map fun k => k.form))
def formL : List T → List UInt8
  | [] => []
  | t :: r => t.form ++ formL r
def formF : List ByteArray → List T → List UInt8
  | _, [] => []
  | ns, t :: r => shortL (ns.headD ⟨#[]⟩).size ++ (ns.headD ⟨#[]⟩).data.toList ++ t.form ++ formF ns.tail r
theorem formL_map : ∀ ks : List T, (ks.map fun k => k.form).flatten = formL ks
  | [] => rfl
  | t :: r => by simp only [List.map_cons, List.flatten_cons, formL, formL_map r]
theorem formF_map : ∀ (ns : List ByteArray) (ks : List T), flds ns (ks.map fun k => k.form) = formF ns ks
  | _, [] => rfl
  | ns, t :: r => by simp only [List.map_cons, flds, formF, formF_map ns.tail r]
theorem T.form_list (ks : List T) : (T.list ks).form = 4 :: (shortL ks.length ++ formL ks) := by rw [T.form, formL_map]
theorem T.form_recd (ns : List ByteArray) (vs : List T) : (T.recd ns vs).form = 5 :: (shortL vs.length ++ formF ns vs) := by rw [T.form, formF_map]

theorem formL_append (l r : List T) : formL (l ++ r) = formL l ++ formL r := by
  induction l with
  | nil => simp [formL]
  | cons t l ih => simp [formL, ih]
theorem formL_take (ks : List T) (k : Nat) (h : k < ks.length) : formL (ks.take (k + 1)) = formL (ks.take k) ++ ks[k].form := by
  rw [List.take_succ_eq_append_getElem h, formL_append]; simp [formL]
theorem formF_take : ∀ (ns : List ByteArray) (vs : List T) (k : Nat) (h : k < vs.length), formF ns (vs.take (k + 1)) = formF ns (vs.take k) ++ (shortL (ns.getD k ⟨#[]⟩).size ++ (ns.getD k ⟨#[]⟩).data.toList ++ vs[k].form)
  | _, [], k, h => by simp at h
  | ns, t :: r, 0, _ => by cases ns <;> simp [formF]
  | ns, t :: r, k + 1, h => by
    simp only [List.take_succ_cons, formF, List.getElem_cons_succ]
    rw [formF_take ns.tail r k (by simpa using h)]
    cases ns <;> simp

end Go.Proofs.YtamaioeikcjhoaaDoor
