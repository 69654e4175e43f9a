/-
  Changes, files of them, a slice of changes in memory ('CS'), their cells.
-/
import Derived.Test.YtockgapdfcapnaaRows
import Derived.Test.YtockgapdfcapnaaEntB
import Derived.WalkKit
import Derived.WalkSpells
import Derived.WalkLawsBesides
import Derived.Deep.Light
import Derived.Deep.QuietTactic
import Derived.BigQuiet
import Derived.Deep.RegionWith
namespace Go.Proofs.Ytockgapdfcapnaa
open Go.RowKit

structure Fl where
  there : Bool
  text : ByteArray
  runs : Bool
structure Ch where
  path : ByteArray
  old : Fl
  new : Fl

def flV (f : Fl) : Value := .agg #[.bool f.there, .string f.text, .bool f.runs]
def chV (c : Ch) : Value := .agg #[.string c.path, .bool c.old.there, .string c.old.text, .bool c.old.runs, .bool c.new.there, .string c.new.text, .bool c.new.runs]

/-- A change's cells at a place. -/
def ChAt (w : World) (b o : Nat) (c : Ch) : Prop :=
  w.cell? ⟨b, o, none⟩ = some (.string c.path) ∧ w.cell? ⟨b, o + 1, none⟩ = some (.bool c.old.there) ∧ w.cell? ⟨b, o + 2, none⟩ = some (.string c.old.text) ∧ w.cell? ⟨b, o + 3, none⟩ = some (.bool c.old.runs) ∧
  w.cell? ⟨b, o + 4, none⟩ = some (.bool c.new.there) ∧ w.cell? ⟨b, o + 5, none⟩ = some (.string c.new.text) ∧ w.cell? ⟨b, o + 6, none⟩ = some (.bool c.new.runs)
theorem ChAt.later {w w' : World} {b o : Nat} {c : Ch} (h : ChAt w b o c) (hb : Below w.heap.size w w') : ChAt w' b o c :=
  ⟨cell_later hb h.1, cell_later hb h.2.1, cell_later hb h.2.2.1, cell_later hb h.2.2.2.1, cell_later hb h.2.2.2.2.1, cell_later hb h.2.2.2.2.2.1, cell_later hb h.2.2.2.2.2.2⟩

/-- The slice at address a (whatever where there is no element) holds the changes cs. -/
def CS (w : World) (a : Option Addr) (cs : List Ch) : Prop :=
  cs = [] ∨ ∃ b off, a = some ⟨b, off, none⟩ ∧ ∀ i (h : i < cs.length), ChAt w b (off + i * 7) cs[i]
theorem CS.below {w w' : World} {a : Option Addr} {cs : List Ch} (h : CS w a cs) (hb : Below w.heap.size w w') : CS w' a cs := by
  rcases h with h | ⟨b, off, ha, hc⟩
  · exact .inl h
  · exact .inr ⟨b, off, ha, fun i hi => (hc i hi).later hb⟩
theorem CS.at {w : World} {a : Option Addr} {cs : List Ch} (h : CS w a cs) {k : Nat} (hk : k < cs.length) : ∃ b off, a = some ⟨b, off, none⟩ ∧ ∀ i (h : i < cs.length), ChAt w b (off + i * 7) cs[i] := by
  rcases h with h | h
  · subst h; simp at hk
  · exact h

def sizeC (c : Ch) : Nat := c.path.size + c.old.text.size + c.new.text.size
def totalC (cs : List Ch) : Nat := (cs.map sizeC).sum
theorem totalC_take (cs : List Ch) (k : Nat) (h : k < cs.length) : totalC (cs.take (k + 1)) = totalC (cs.take k) + sizeC cs[k] := by
  rw [List.take_succ_eq_append_getElem h]; simp only [totalC, List.map_append, List.sum_append]; simp
theorem size_le_totalC (cs : List Ch) (a : Ch) (h : a ∈ cs) : sizeC a ≤ totalC cs := by
  induction cs with
  | nil => simp at h
  | cons x l ih =>
    simp only [totalC, List.map_cons, List.sum_cons] at ih ⊢
    rcases List.mem_cons.1 h with rfl | h
    · omega
    · have := ih h; omega
def chMax (c : Ch) : Prop := c.path.size ≤ maxLen ∧ c.old.text.size ≤ maxLen ∧ c.new.text.size ≤ maxLen

theorem ChAt.block {w w' : World} {b o : Nat} {c : Ch} (h : ChAt w b o c) (hk : w'.heap[b]? = w.heap[b]?) : ChAt w' b o c := by
  have hc : ∀ j, w'.cell? ⟨b, j, none⟩ = w.cell? ⟨b, j, none⟩ := fun j => World.cell?_of_block hk
  unfold ChAt
  rw [hc, hc, hc, hc, hc, hc, hc]
  exact h
def zeroC : Ch := ⟨⟨#[]⟩, ⟨false, ⟨#[]⟩, false⟩, ⟨false, ⟨#[]⟩, false⟩⟩

theorem Try.infoChange : (Try.prog.info? 82).map (fun i => (i.zero, i.size, i.bytes)) = some (some (.agg #[.string ⟨#[]⟩, .bool false, .string ⟨#[]⟩, .bool false, .bool false, .string ⟨#[]⟩, .bool false]), 7, 80) := by kernel_rfl

def setL (w : World) (g o : Nat) : List Value → World
  | [] => w
  | v :: r => setL (w.setCell ⟨g, o, none⟩ v) g (o + 1) r
theorem setL_other {g p : Nat} : ∀ (vs : List Value) (w : World) (o : Nat), (p < o ∨ o + vs.length ≤ p) → (setL w g o vs).cell? ⟨g, p, none⟩ = w.cell? ⟨g, p, none⟩
  | [], _, _, _ => rfl
  | v :: r, w, o, h => by
    rw [setL, setL_other r _ _ (by simp at h; omega), wotherE (by intro e; injection e with _ e; simp at h; omega)]
theorem setL_at {g : Nat} : ∀ (vs : List Value) (w : World) (o : Nat), (∀ j, j < vs.length → ∃ u, w.cell? ⟨g, o + j, none⟩ = some u) → ∀ j v, vs[j]? = some v → (setL w g o vs).cell? ⟨g, o + j, none⟩ = some v
  | [], _, _, _, j, v, h => by simp at h
  | x :: r, w, o, hs, 0, v, h => by
    rw [setL, setL_other r _ _ (by omega), Nat.add_zero]
    obtain ⟨u, hu⟩ := hs 0 (by simp)
    rw [Nat.add_zero] at hu
    rw [wsameE hu]
    simpa using h
  | x :: r, w, o, hs, j + 1, v, h => by
    rw [setL, show o + (j + 1) = (o + 1) + j by omega]
    refine setL_at r _ _ (fun i hi => ?_) j v (by simpa using h)
    obtain ⟨u, hu⟩ := hs (i + 1) (by simp; omega)
    refine ⟨u, ?_⟩
    rw [wotherE (by intro e; injection e with _ e; omega), show o + 1 + i = o + (i + 1) by omega]
    exact hu
theorem setL_frozen (a : Addr) : ∀ (vs : List Value) (w : World) (g o : Nat), (setL w g o vs).frozen? a = w.frozen? a
  | [], _, _, _ => rfl
  | v :: r, w, g, o => by rw [setL, setL_frozen a r, World.frozen?_setCell]
theorem setL_below {w0 : World} {B g : Nat} (hg : B ≤ g) : ∀ (vs : List Value) (w : World) (o : Nat), Below B w0 w → Below B w0 (setL w g o vs)
  | [], _, _, h => h
  | v :: r, _, o, h => setL_below hg r _ _ (h.setCell (p := ⟨g, o, none⟩) hg v)
theorem setL_size : ∀ (vs : List Value) (w : World) (g o : Nat), (setL w g o vs).heap.size = w.heap.size
  | [], _, _, _ => rfl
  | v :: r, w, g, o => by rw [setL, setL_size r]; simp

def chL (c : Ch) : List Value := [.string c.path, .bool c.old.there, .string c.old.text, .bool c.old.runs, .bool c.new.there, .string c.new.text, .bool c.new.runs]
theorem setL_ch {w : World} {g o : Nat} {c : Ch} (hs : ∀ j, j < 7 → ∃ u, w.cell? ⟨g, o + j, none⟩ = some u) : ChAt (setL w g o (chL c)) g o c :=
  ⟨setL_at (chL c) w o hs 0 _ rfl, setL_at (chL c) w o hs 1 _ rfl, setL_at (chL c) w o hs 2 _ rfl, setL_at (chL c) w o hs 3 _ rfl, setL_at (chL c) w o hs 4 _ rfl, setL_at (chL c) w o hs 5 _ rfl, setL_at (chL c) w o hs 6 _ rfl⟩
theorem setL_keep {w : World} {g o p : Nat} {c d : Ch} (h : ChAt w g p d) (hp : p + 7 ≤ o ∨ o + 7 ≤ p) : ChAt (setL w g o (chL c)) g p d := by
  obtain ⟨h0, h1, h2, h3, h4, h5, h6⟩ := h
  have hl : (chL c).length = 7 := rfl
  exact ⟨(setL_other _ w o (by omega)).trans h0, (setL_other _ w o (by omega)).trans h1, (setL_other _ w o (by omega)).trans h2, (setL_other _ w o (by omega)).trans h3, (setL_other _ w o (by omega)).trans h4, (setL_other _ w o (by omega)).trans h5, (setL_other _ w o (by omega)).trans h6⟩

end Go.Proofs.Ytockgapdfcapnaa
