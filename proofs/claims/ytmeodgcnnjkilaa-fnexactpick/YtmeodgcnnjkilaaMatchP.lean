/-
  Marks matched with pieces: by trying, and by rows: plain.
-/
import Derived.Test.YtmeodgcnnjkilaaSplitP
namespace Go.Proofs.Ytmeodgcnnjkilaa
open Go.RowKit

section
variable {X : Type}
/-- One of the ends of a list. -/
def anyTail (f : List X → Bool) : List X → Bool
  | [] => f []
  | q :: qs => f (q :: qs) || anyTail f qs

/-- Whether marks match pieces. -/
def mat (any : X → Bool) (one : X → X → Bool) : List X → List X → Bool
  | [], p => p.isEmpty
  | m :: ms, p => if any m = true then anyTail (mat any one ms) p else match p with
    | [] => false
    | q :: qs => one m q && mat any one ms qs

variable {any : X → Bool} {one : X → X → Bool}

theorem mat_nil (p : List X) : mat any one [] p = p.isEmpty := rfl
theorem mat_start : mat any one ([] : List X) [] = true := rfl
theorem mat_nil_snoc (p : List X) (q : X) : mat any one [] (p ++ [q]) = false := by rw [mat_nil]; simp

theorem mat_any_nil {m : X} {ms : List X} (h : any m = true) : mat any one (m :: ms) [] = mat any one ms [] := by
  rw [mat, if_pos h]; rfl
theorem mat_any {m : X} {ms : List X} (h : any m = true) (q : X) (qs : List X) : mat any one (m :: ms) (q :: qs) = (mat any one ms (q :: qs) || mat any one (m :: ms) qs) := by
  show (if any m = true then anyTail (mat any one ms) (q :: qs) else _) = (mat any one ms (q :: qs) || (if any m = true then anyTail (mat any one ms) qs else _))
  rw [if_pos h, if_pos h, anyTail]
theorem mat_one_nil {m : X} {ms : List X} (h : any m = false) : mat any one (m :: ms) [] = false := by
  rw [mat, if_neg (by rw [h]; simp)]
theorem mat_one {m : X} {ms : List X} (h : any m = false) (q : X) (qs : List X) : mat any one (m :: ms) (q :: qs) = (one m q && mat any one ms qs) := by
  rw [mat, if_neg (by rw [h]; simp)]

theorem mat_snoc_nil : ∀ (ms : List X) (m : X), mat any one (ms ++ [m]) [] = (mat any one ms [] && any m)
  | [], m => by
    cases h : any m with
    | true => rw [List.nil_append, mat_any_nil h]; rfl
    | false => rw [List.nil_append, mat_one_nil h]; rfl
  | x :: xs, m => by
    cases h : any x with
    | true => rw [List.cons_append, mat_any_nil h, mat_any_nil h, mat_snoc_nil xs m]
    | false => rw [List.cons_append, mat_one_nil h, mat_one_nil h]; rfl

theorem mat_all {m : X} (h : any m = true) : ∀ p : List X, mat any one [m] p = true
  | [] => by rw [mat_any_nil h]; rfl
  | q :: qs => by rw [mat_any h, mat_all h qs]; simp

theorem mat_snoc_any {m : X} (h : any m = true) : ∀ (ms p : List X) (q : X), mat any one (ms ++ [m]) (p ++ [q]) = (mat any one ms (p ++ [q]) || mat any one (ms ++ [m]) p)
  | [], p, q => by rw [List.nil_append, mat_all h, mat_all h]; simp
  | x :: xs, p, q => by
    have ih := mat_snoc_any h xs
    have hn := mat_snoc_nil (any := any) (one := one) xs m
    rw [h, Bool.and_true] at hn
    cases hx : any x with
    | true =>
      induction p with
      | nil =>
        have := ih [] q
        rw [List.nil_append] at this ⊢
        rw [List.cons_append, mat_any hx, mat_any hx, mat_any_nil hx, mat_any_nil hx, this, hn]
      | cons y ys ihp =>
        rw [List.cons_append] at ihp
        have := ih (y :: ys) q
        rw [List.cons_append] at this
        rw [List.cons_append, List.cons_append, mat_any hx, mat_any hx, mat_any hx, this, ihp]
        cases mat any one xs (y :: (ys ++ [q])) <;> cases mat any one (xs ++ [m]) (y :: ys) <;> simp
    | false =>
      cases p with
      | nil =>
        rw [List.nil_append, List.cons_append, mat_one hx, mat_one hx, mat_one_nil hx, hn]; simp
      | cons y ys =>
        rw [List.cons_append, List.cons_append, mat_one hx, mat_one hx, mat_one hx, ih ys q]
        cases one x y <;> simp

theorem mat_snoc_one {m : X} (h : any m = false) : ∀ (ms p : List X) (q : X), mat any one (ms ++ [m]) (p ++ [q]) = (mat any one ms p && one m q)
  | [], p, q => by
    cases p with
    | nil => rw [List.nil_append, List.nil_append, mat_one h]; simp [mat]
    | cons y ys => rw [List.nil_append, List.cons_append, mat_one h, mat_nil_snoc]; simp [mat]
  | x :: xs, p, q => by
    have ih := mat_snoc_one h xs
    have hn := mat_snoc_nil (any := any) (one := one) xs m
    rw [h, Bool.and_false] at hn
    cases hx : any x with
    | true =>
      induction p with
      | nil =>
        have := ih [] q
        rw [List.nil_append] at this ⊢
        rw [List.cons_append, mat_any hx, mat_any_nil hx, mat_any_nil hx, this, hn]; simp
      | cons y ys ihp =>
        rw [List.cons_append] at ihp
        have := ih (y :: ys) q
        rw [List.cons_append] at this
        rw [List.cons_append, List.cons_append, mat_any hx, mat_any hx, this, ihp]
        cases one m q <;> simp
    | false =>
      cases p with
      | nil => rw [List.nil_append, List.cons_append, mat_one hx, mat_one_nil hx, hn]; simp
      | cons y ys => rw [List.cons_append, List.cons_append, mat_one hx, mat_one hx, ih ys q, Bool.and_assoc]

/-- Only how marks meet the pieces at hand matters. -/
theorem mat_congr {one' : X → X → Bool} : ∀ (ms ps : List X), (∀ m ∈ ms, ∀ q ∈ ps, one m q = one' m q) → mat any one ms ps = mat any one' ms ps
  | [], _, _ => rfl
  | m :: ms, ps, k => by
    have ih := mat_congr (one' := one') ms
    cases hx : any m with
    | true =>
      induction ps with
      | nil => rw [mat_any_nil hx, mat_any_nil hx, ih [] (fun a _ q hq => by cases hq)]
      | cons y ys ihp =>
        rw [mat_any hx, mat_any hx, ih (y :: ys) (fun a ha q hq => k a (by simp [ha]) q hq), ihp (fun a ha q hq => k a ha q (by simp [hq]))]
    | false =>
      cases ps with
      | nil => rw [mat_one_nil hx, mat_one_nil hx]
      | cons y ys => rw [mat_one hx, mat_one hx, ih ys (fun a ha q hq => k a (by simp [ha]) q (by simp [hq])), k m (by simp) y (by simp)]
end
end Go.Proofs.Ytmeodgcnnjkilaa
