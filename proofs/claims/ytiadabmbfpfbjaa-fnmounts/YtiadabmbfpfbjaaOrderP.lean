/-
  The order of texts, and what is put in front of them or behind: for the order in which a node's kids are told.
-/
import Derived.Test.YtiadabmbfpfbjaaTreeU
namespace Go.Proofs.Ytiadabmbfpfbjaa
open Go.RowKit

theorem less_front : ∀ (f a b : List UInt8), Op.bytesLess (f ++ a) (f ++ b) = Op.bytesLess a b
  | [], _, _ => rfl
  | x :: f, a, b => by
    have h1 : ¬ x < x := by rw [UInt8.lt_iff_toNat_lt]; omega
    simp [Op.bytesLess, h1, less_front f a b]

/-- One that is less and no beginning of the other stays less, whatever follows. -/
theorem less_app : ∀ {a b : List UInt8} (r s : List UInt8), Op.bytesLess a b = true → ¬ a <+: b → Op.bytesLess (a ++ r) (b ++ s) = true
  | [], b, _, _, _, h => absurd (List.nil_prefix) h
  | _ :: _, [], _, _, h, _ => by simp [Op.bytesLess] at h
  | x :: a, y :: b, r, s, h, hn => by
    simp only [Op.bytesLess, Bool.or_eq_true, decide_eq_true_eq, Bool.and_eq_true, beq_iff_eq] at h
    simp only [List.cons_append, Op.bytesLess, Bool.or_eq_true, decide_eq_true_eq, Bool.and_eq_true, beq_iff_eq]
    rcases h with h | ⟨rfl, h⟩
    · exact .inl h
    · exact .inr ⟨rfl, less_app r s h (fun hp => hn ((List.cons_prefix_cons).2 ⟨rfl, hp⟩))⟩

/-- A beginning that is not all is less, whatever follows the other. -/
theorem less_pre {a b : List UInt8} (s : List UInt8) (h : a <+: b) (hne : a ≠ b) : Op.bytesLess a (b ++ s) = true := by
  obtain ⟨t, rfl⟩ := h
  cases t with
  | nil => simp at hne
  | cons c t => rw [List.append_assoc]; exact less_more a c (t ++ s)

/-- What the paths below a kid begin with. -/
def beginL (file : Bool) (name : List UInt8) : List UInt8 := if file then name else name ++ [47]

theorem begin_prefix {f g : Bool} {a b : List UInt8} (ha : 47 ∉ a) (hb : 47 ∉ b) (h : beginL f a <+: beginL g b) (hne : a ≠ b) : f = true ∧ beginL f a ≠ beginL g b := by
  have hf : f = true := by
    cases f with
    | true => rfl
    | false =>
      exfalso
      simp only [beginL, Bool.false_eq_true, if_false] at h
      obtain ⟨t, ht⟩ := h
      cases g with
      | true =>
        simp only [if_true] at ht
        exact hb (by rw [← ht]; simp)
      | false =>
        simp only [Bool.false_eq_true, if_false] at ht
        rcases List.eq_nil_or_concat t with rfl | ⟨t', c, rfl⟩
        · simp at ht; exact hne ht
        · rw [List.concat_eq_append, ← List.append_assoc] at ht
          have h1 := (List.append_inj' ht rfl).1
          exact hb (by rw [← h1]; simp)
  subst hf
  refine ⟨rfl, fun e => ?_⟩
  cases g with
  | true => exact hne e
  | false =>
    simp only [beginL, if_true, Bool.false_eq_true, if_false] at e
    exact ha (by rw [e]; simp)

/-- All paths below a kid are less than all those below one that begins greater. -/
theorem kids_less {f g : Bool} {a b : List UInt8} (front r s : List UInt8) (ha : 47 ∉ a) (hb : 47 ∉ b) (hne : a ≠ b) (h : Op.bytesLess (beginL f a) (beginL g b) = true) (hr : f = true → r = []) :
    Op.bytesLess (front ++ (beginL f a ++ r)) (front ++ (beginL g b ++ s)) = true := by
  rw [less_front]
  by_cases hp : beginL f a <+: beginL g b
  · obtain ⟨h1, h2⟩ := begin_prefix ha hb hp hne
    rw [hr h1, List.append_nil]
    exact less_pre s hp h2
  · exact less_app r s h hp
end Go.Proofs.Ytiadabmbfpfbjaa
