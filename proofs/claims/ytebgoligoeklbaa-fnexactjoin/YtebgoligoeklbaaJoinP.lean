/-
  Two patches joined, plain.
-/
import Derived.Test.YtebgoligoeklbaaMrgP
import Derived.Test.YtebgoligoeklbaaCutC
import Derived.Test.YtebgoligoeklbaaPatP
import Derived.Test.YtebgoligoeklbaaChOut
namespace Go.Proofs.Ytebgoligoeklbaa
open Go.RowKit

def addG (l : List ByteArray) (ps : List ByteArray) : List ByteArray := ps.foldl nameL l
theorem addG_take {l ps : List ByteArray} {j : Nat} (hj : j < ps.length) : addG l (ps.take (j + 1)) = nameL (addG l (ps.take j)) ps[j] := by
  unfold addG
  rw [List.take_succ_eq_append_getElem hj, List.foldl_append]
  rfl
theorem addG_len (l ps : List ByteArray) : ∀ j, j ≤ ps.length → (addG l (ps.take j)).length ≤ l.length + j
  | 0, _ => by simp [addG]
  | j + 1, hj => by
    have h := addG_len l ps j (by omega)
    rw [addG_take (by omega)]
    have := nameL_len (addG l (ps.take j)) ps[j]
    omega
theorem addG_asc {l : List ByteArray} (hl : AscN l) (ps : List ByteArray) : AscN (addG l ps) ∧ ∀ y, y ∈ addG l ps ↔ y ∈ l ∨ y ∈ ps := by
  have key : ∀ j, j ≤ ps.length → AscN (addG l (ps.take j)) ∧ ∀ y, y ∈ addG l (ps.take j) ↔ y ∈ l ∨ y ∈ ps.take j := by
    intro j
    induction j with
    | zero => intro _; exact ⟨by simpa [addG] using hl, fun y => by simp [addG]⟩
    | succ j ih =>
      intro hj
      obtain ⟨h1, h2⟩ := ih (by omega)
      rw [addG_take (by omega)]
      have h3 := nameL_asc (s := ps[j]) h1
      refine ⟨h3.1, fun y => ?_⟩
      rw [h3.2, h2, List.take_succ_eq_append_getElem (by omega), List.mem_append, List.mem_singleton, or_assoc]
  have := key ps.length (Nat.le_refl _)
  rwa [List.take_length] at this

def joinNs (p q : List Ch) : List ByteArray := addG (addG [] (p.map Ch.path)) (q.map Ch.path)
def outJ2 (n : ByteArray) : Option Ch → Option Ch → List Ch
  | none, y => [y.getD noCh]
  | some x, none => [x]
  | some x, some y => if sameF x.old y.new = true then [] else [⟨n, x.old, y.new⟩]
def clJ2 : Option Ch → Option Ch → Bool
  | some x, some y => !sameF x.new y.old
  | _, _ => false
def outJ (p q : List Ch) (n : ByteArray) : List Ch := outJ2 n (fnd Ch.path p n) (fnd Ch.path q n)
def clJ (p q : List Ch) (n : ByteArray) : Bool := clJ2 (fnd Ch.path p n) (fnd Ch.path q n)
theorem outJ2_len (n : ByteArray) (x y : Option Ch) : (outJ2 n x y).length ≤ 1 := by
  unfold outJ2
  split
  · simp
  · simp
  · split <;> simp
def joinN (p q : List Ch) (ns : List ByteArray) : List Ch := ns.flatMap (outJ p q)
theorem joinN_take {p q : List Ch} {ns : List ByteArray} {k : Nat} (hk : k < ns.length) : joinN p q (ns.take (k + 1)) = joinN p q (ns.take k) ++ outJ p q ns[k] := by
  unfold joinN
  rw [List.take_succ_eq_append_getElem hk, List.flatMap_append]
  simp
theorem outJ_len (p q : List Ch) (n : ByteArray) : (outJ p q n).length ≤ 1 := outJ2_len _ _ _
theorem joinN_len (p q : List Ch) : ∀ ns : List ByteArray, (joinN p q ns).length ≤ ns.length
  | [] => Nat.le_refl _
  | n :: ns => by
    have h := joinN_len p q ns
    have h1 := outJ_len p q n
    unfold joinN at h ⊢
    rw [List.flatMap_cons, List.length_append, List.length_cons]
    omega
theorem joinNs_len (p q : List Ch) : (joinNs p q).length ≤ p.length + q.length := by
  have h1 := addG_len [] (p.map Ch.path) (p.map Ch.path).length (Nat.le_refl _)
  have h2 := addG_len (addG [] (p.map Ch.path)) (q.map Ch.path) (q.map Ch.path).length (Nat.le_refl _)
  rw [List.take_length] at h1 h2
  simp only [List.length_map, List.length_nil] at h1 h2
  unfold joinNs
  omega
theorem joinNs_mem (p q : List Ch) : AscN (joinNs p q) ∧ ∀ n, n ∈ joinNs p q ↔ (∃ x ∈ p, Ch.path x = n) ∨ ∃ y ∈ q, Ch.path y = n := by
  have h1 := addG_asc (l := []) List.Pairwise.nil (p.map Ch.path)
  have h2 := addG_asc h1.1 (q.map Ch.path)
  refine ⟨h2.1, fun n => ?_⟩
  unfold joinNs
  rw [h2.2, h1.2]
  simp

def JoinRel (p q cs : List Ch) (ok : Bool) : Prop :=
  (¬ (ValidP p ∧ ValidP q) ∧ cs = [] ∧ ok = false) ∨ (ValidP p ∧ ValidP q ∧
    (((∃ n ∈ joinNs p q, clJ p q n = true) ∧ cs = [] ∧ ok = false) ∨
     ((∀ n ∈ joinNs p q, clJ p q n = false) ∧ ((200 < (joinN p q (joinNs p q)).length ∧ cs = [] ∧ ok = false) ∨ ((joinN p q (joinNs p q)).length ≤ 200 ∧ cs = joinN p q (joinNs p q) ∧ ok = true)))))
def JoinPost (p q : List Ch) (w : World) (e : Ending) (w' : World) : Prop :=
  ∃ cs ok, JoinRel p q cs ok ∧ (∃ ad cap, e = .returned (.tuple #[.agg #[.slice ad cs.length cap], .bool ok]) ∧ CL w.heap.size w' ad cs) ∧ Below w.heap.size w w'
theorem join_one {p q us vs : List Ch} {c d : Bool} (h : JoinRel p q us c) (h' : JoinRel p q vs d) : us = vs ∧ c = d := by
  rcases h with ⟨h1, rfl, rfl⟩ | ⟨h1, h2, h⟩
  · rcases h' with ⟨_, rfl, rfl⟩ | ⟨h3, h4, _⟩
    · exact ⟨rfl, rfl⟩
    · exact absurd ⟨h3, h4⟩ h1
  · rcases h' with ⟨h3, _⟩ | ⟨_, _, h'⟩
    · exact absurd ⟨h1, h2⟩ h3
    · rcases h with ⟨⟨n, hn, hc⟩, rfl, rfl⟩ | ⟨hn, h⟩
      · rcases h' with ⟨_, rfl, rfl⟩ | ⟨hn', _⟩
        · exact ⟨rfl, rfl⟩
        · rw [hn' n hn] at hc; cases hc
      · rcases h' with ⟨⟨n, hn', hc⟩, _⟩ | ⟨_, h'⟩
        · rw [hn n hn'] at hc; cases hc
        · rcases h with ⟨h5, rfl, rfl⟩ | ⟨h5, rfl, rfl⟩
          · rcases h' with ⟨_, rfl, rfl⟩ | ⟨h6, _⟩
            · exact ⟨rfl, rfl⟩
            · omega
          · rcases h' with ⟨h6, _⟩ | ⟨_, rfl, rfl⟩
            · omega
            · exact ⟨rfl, rfl⟩
theorem join_few {p q us : List Ch} {c : Bool} (h : JoinRel p q us c) : us.length ≤ 200 := by
  rcases h with ⟨_, rfl, _⟩ | ⟨_, _, ⟨_, rfl, _⟩ | ⟨_, ⟨_, rfl, _⟩ | ⟨h, rfl, _⟩⟩⟩
  · simp
  · simp
  · simp
  · exact h
end Go.Proofs.Ytebgoligoeklbaa
