/-
  Slices of strings that are read: 'SS w a ss'.
-/
import Derived.Test.YtockgapdfcapnaaRows
import Derived.WalkKit
import Derived.WalkSpells
import Derived.WalkLawsBesides
import Derived.Deep.Light
namespace Go.Proofs.Ytockgapdfcapnaa
open Go.RowKit

/-- The slice at address a (whatever where there is no element) holds the strings ss. -/
def SS (w : World) (a : Option Addr) (ss : List ByteArray) : Prop :=
  ss = [] ∨ ∃ b off, a = some ⟨b, off, none⟩ ∧ ∀ i (h : i < ss.length), w.cell? ⟨b, off + i, none⟩ = some (.string ss[i])

theorem SS.below {w w' : World} {a : Option Addr} {ss : List ByteArray} (h : SS w a ss) (hb : Below w.heap.size w w') : SS w' a ss := by
  rcases h with h | ⟨b, off, ha, hc⟩
  · exact .inl h
  · exact .inr ⟨b, off, ha, fun i hi => cell_later hb (hc i hi)⟩

theorem SS.at {w : World} {a : Option Addr} {ss : List ByteArray} (h : SS w a ss) {k : Nat} (hk : k < ss.length) :
    ∃ b off, a = some ⟨b, off, none⟩ ∧ ∀ i (h : i < ss.length), w.cell? ⟨b, off + i, none⟩ = some (.string ss[i]) := by
  rcases h with h | h
  · subst h; simp at hk
  · exact h

def total (ss : List ByteArray) : Nat := (ss.map ByteArray.size).sum
theorem total_snoc (l : List ByteArray) (s : ByteArray) : total (l ++ [s]) = total l + s.size := by simp [total]
theorem total_take (ss : List ByteArray) (k : Nat) (h : k < ss.length) : total (ss.take (k + 1)) = total (ss.take k) + ss[k].size := by
  rw [List.take_succ_eq_append_getElem h, total_snoc]
theorem size_le_total (ss : List ByteArray) (s : ByteArray) (h : s ∈ ss) : s.size ≤ total ss := by
  induction ss with
  | nil => simp at h
  | cons x l ih =>
    simp only [total, List.map_cons, List.sum_cons] at ih ⊢
    rcases List.mem_cons.1 h with rfl | h
    · omega
    · have := ih h; omega

theorem Try.infoStr : (Try.prog.info? 9).map (fun i => (i.zero, i.size, i.bytes)) = some (some (.string ⟨#[]⟩), 1, 16) := by kernel_rfl
end Go.Proofs.Ytockgapdfcapnaa
