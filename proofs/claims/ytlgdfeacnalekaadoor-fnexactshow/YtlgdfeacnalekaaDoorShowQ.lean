/-
  What a proof shows, plain: a way through the directories, and the answer.
-/
import Derived.Test.YtlgdfeacnalekaaDoorRdDirs
import Derived.Test.YtlgdfeacnalekaaDoorHexO
namespace Go.Proofs.YtlgdfeacnalekaaDoor
open Go.RowKit

theorem lessD_irrefl : ∀ l : List UInt8, Op.bytesLess l l = false
  | [] => rfl
  | x :: l => by
    have h1 : ¬ x < x := by rw [UInt8.lt_iff_toNat_lt]; omega
    simp [Op.bytesLess, h1, lessD_irrefl l]
theorem lessD_trans : ∀ {a b c : List UInt8}, Op.bytesLess a b = true → Op.bytesLess b c = true → Op.bytesLess a c = true
  | [], _, [], _, h => by simp [Op.bytesLess] at h
  | [], _, _ :: _, _, _ => by simp [Op.bytesLess]
  | _ :: _, [], _, h, _ => by simp [Op.bytesLess] at h
  | _ :: _, _ :: _, [], _, h => by simp [Op.bytesLess] at h
  | x :: a, y :: b, z :: c, h, k => by
    simp only [Op.bytesLess, Bool.or_eq_true, decide_eq_true_eq, Bool.and_eq_true, beq_iff_eq] at h k ⊢
    rcases h with h | ⟨rfl, h⟩
    · rcases k with k | ⟨rfl, k⟩
      · left
        rw [UInt8.lt_iff_toNat_lt] at h k ⊢
        omega
      · exact .inl h
    · rcases k with k | ⟨rfl, k⟩
      · exact .inl k
      · exact .inr ⟨rfl, lessD_trans h k⟩
theorem RdR.above {w : Nat} : ∀ {ps : List (List UInt8)} {last : ByteArray} {ds : List DL}, RdR w last ps ds → ∀ d ∈ ds, Op.bytesLess last.toList d.name.toList = true
  | [], _, _, h, d, hd => by rw [show _ = [] from h] at hd; simp at hd
  | p :: ps, last, _, ⟨d0, r, e1, _, _, e4, e5⟩, d, hd => by
    rw [e1] at hd
    rcases List.mem_cons.1 hd with rfl | hd
    · exact e4
    · exact lessD_trans e4 (e5.above d hd)
theorem RdR.ok {w : Nat} : ∀ {ps : List (List UInt8)} {last : ByteArray} {ds : List DL}, RdR w last ps ds → ∀ d ∈ ds, LnOk w d
  | [], _, _, h, d, hd => by rw [show _ = [] from h] at hd; simp at hd
  | p :: ps, last, _, ⟨d0, r, e1, _, e3, e4, e5⟩, d, hd => by
    rw [e1] at hd
    rcases List.mem_cons.1 hd with rfl | hd
    · exact e3
    · exact e5.ok d hd
/-- The line of a name. -/
def lk (ds : List DL) (n : ByteArray) : Option DL := ds.find? (fun d => d.name.toList == n.toList)
theorem ba_toL {x y : ByteArray} (h : x.toList = y.toList) : x = y := ba_ext (by rw [← toL, ← toL]; exact h)
theorem RdR.lk {w : Nat} : ∀ {ps : List (List UInt8)} {last : ByteArray} {ds : List DL}, RdR w last ps ds → ∀ d ∈ ds, lk ds d.name = some d
  | [], _, _, h, d, hd => by rw [show _ = [] from h] at hd; simp at hd
  | p :: ps, last, _, ⟨d0, r, e1, _, _, e4, e5⟩, d, hd => by
    subst e1
    unfold Go.Proofs.YtlgdfeacnalekaaDoor.lk
    rw [List.find?_cons]
    rcases List.mem_cons.1 hd with rfl | hd
    · simp
    · have hne : (d0.name.toList == d.name.toList) = false := by
        have := e5.above d hd
        rw [Bool.eq_false_iff]
        intro h
        rw [beq_iff_eq] at h
        rw [h, lessD_irrefl] at this
        cases this
      rw [hne]
      exact e5.lk d hd
theorem lk_none {ds : List DL} {n : ByteArray} (h : ∀ d ∈ ds, d.name ≠ n) : lk ds n = none := by
  unfold lk
  rw [List.find?_eq_none]
  intro d hd hc
  exact h d hd (ba_toL (by simpa using hc))
theorem lk_mem {ds : List DL} {n : ByteArray} {d : DL} (h : lk ds n = some d) : d ∈ ds ∧ d.name = n := by
  unfold lk at h
  exact ⟨List.mem_of_find?_eq_some h, ba_toL (by simpa using List.find?_some h)⟩
/-- What the map says, by the lines. -/
theorem DirD.at {w : Nat} {ps : List (List UInt8)} {last : ByteArray} {ds : List DL} {D : DataW Unit} (h : DirD ds D) (hr : RdR w last ps ds) (n : ByteArray) : (∃ d, lk ds n = some d ∧ D.atKey (kd n) dlZD = dlD d) ∨ (lk ds n = none ∧ D.atKey (kd n) dlZD = dlZD) := by
  rcases h n with ⟨d, h1, h2, h3⟩ | ⟨h1, h2⟩
  · subst h2
    exact .inl ⟨d, hr.lk d h1, h3⟩
  · exact .inr ⟨lk_none h1, h2⟩

/-- Along a path: nothing where it fails; else what lies at its end. -/
def fw : List (List DL × ByteArray) → List ByteArray → Option (Option DL)
  | x :: r, [p] => if r.isEmpty then some (lk x.1 p) else none
  | x :: r, p :: q :: ps => (match lk x.1 p with
    | some d => if d.kind == 100 then (match r with
      | [] => none
      | y :: _ => if hexL y.2.data.toList == d.dig.data.toList then fw r (q :: ps) else none) else (if r.isEmpty then some none else none)
    | none => if r.isEmpty then some none else none)
  | [], _ => none
  | _ :: _, [] => none
def isFd (d : DL) : Bool := d.kind == 102 || d.kind == 120
/-- What is shown: a code, nothing, or a file (whether it runs). -/
structure SA where
  code : Nat
  there : Bool
  runs : Bool
def ansOf (there : Bool) (text : ByteArray) (wd : Nat) : Option (Option DL) → SA
  | none => ⟨2, false, false⟩
  | some o => (match o with
    | some d => if isFd d then (if there && (hexL (sumStr (ffB ++ text).data.toList wd).data.toList == d.dig.data.toList) then ⟨0, true, d.kind == 120⟩ else ⟨2, false, false⟩) else (if there then ⟨2, false, false⟩ else ⟨0, false, false⟩)
    | none => if there then ⟨2, false, false⟩ else ⟨0, false, false⟩)
end Go.Proofs.YtlgdfeacnalekaaDoor
