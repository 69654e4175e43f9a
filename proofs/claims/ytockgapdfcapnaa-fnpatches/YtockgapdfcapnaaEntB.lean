/-
  Slices of entries ('ES w a ts').
-/
import Derived.Test.YtockgapdfcapnaaRows
import Derived.WalkKit
import Derived.WalkSpells
import Derived.WalkLawsBesides
import Derived.Deep.Light
import Derived.Deep.QuietTactic
import Derived.BigQuiet
import Derived.Deep.RegionWith
namespace Go.Proofs.Ytockgapdfcapnaa
open Go.RowKit

structure En where
  path : ByteArray
  text : ByteArray
  runs : Bool

def En.val (a : En) : Value := .agg #[.string a.path, .string a.text, .bool a.runs]

/-- The slice at address a (whatever where there is no element) holds the entries ts. -/
def ES (w : World) (a : Option Addr) (ts : List En) : Prop :=
  ts = [] ∨ ∃ b off, a = some ⟨b, off, none⟩ ∧ ∀ i (h : i < ts.length), w.cell? ⟨b, off + i * 3, none⟩ = some (.string ts[i].path) ∧ w.cell? ⟨b, off + i * 3 + 1, none⟩ = some (.string ts[i].text) ∧ w.cell? ⟨b, off + i * 3 + 2, none⟩ = some (.bool ts[i].runs)

theorem ES.below {w w' : World} {a : Option Addr} {ts : List En} (h : ES w a ts) (hb : Below w.heap.size w w') : ES w' a ts := by
  rcases h with h | ⟨b, off, ha, hc⟩
  · exact .inl h
  · exact .inr ⟨b, off, ha, fun i hi => ⟨cell_later hb (hc i hi).1, cell_later hb (hc i hi).2.1, cell_later hb (hc i hi).2.2⟩⟩

theorem ES.set_other {w : World} {g : Nat} {ts : List En} (h : ES w (some ⟨g, 0, none⟩) ts) {p : Addr} {u : Value} (hp : p.block ≠ g) : ES (w.setCell p u) (some ⟨g, 0, none⟩) ts := by
  rcases h with h | ⟨b, off, ha, hc⟩
  · exact .inl h
  · simp at ha
    obtain ⟨rfl, rfl⟩ := ha
    have hne : ∀ o, p ≠ ⟨g, o, none⟩ := fun o e => hp (by rw [e])
    exact .inr ⟨_, 0, rfl, fun i hi => ⟨by rw [World.cell?_setCell_other _ _ _ _ (hne _)]; exact (hc i hi).1, by rw [World.cell?_setCell_other _ _ _ _ (hne _)]; exact (hc i hi).2.1, by rw [World.cell?_setCell_other _ _ _ _ (hne _)]; exact (hc i hi).2.2⟩⟩

theorem ES.at {w : World} {a : Option Addr} {ts : List En} (h : ES w a ts) {k : Nat} (hk : k < ts.length) :
    ∃ b off, a = some ⟨b, off, none⟩ ∧ ∀ i (h : i < ts.length), w.cell? ⟨b, off + i * 3, none⟩ = some (.string ts[i].path) ∧ w.cell? ⟨b, off + i * 3 + 1, none⟩ = some (.string ts[i].text) ∧ w.cell? ⟨b, off + i * 3 + 2, none⟩ = some (.bool ts[i].runs) := by
  rcases h with h | h
  · subst h; simp at hk
  · exact h

def totalE (ts : List En) : Nat := (ts.map fun a => a.path.size + a.text.size).sum
theorem totalE_take (ts : List En) (k : Nat) (h : k < ts.length) : totalE (ts.take (k + 1)) = totalE (ts.take k) + (ts[k].path.size + ts[k].text.size) := by
  rw [List.take_succ_eq_append_getElem h]; simp only [totalE, List.map_append, List.sum_append]; simp
theorem size_le_totalE (ts : List En) (a : En) (h : a ∈ ts) : a.path.size + a.text.size ≤ totalE ts := by
  induction ts with
  | nil => simp at h
  | cons x l ih =>
    simp only [totalE, List.map_cons, List.sum_cons] at ih ⊢
    rcases List.mem_cons.1 h with rfl | h
    · omega
    · have := ih h; omega

theorem Try.infoEntry : (Try.prog.info? 72).map (fun i => (i.zero, i.size, i.bytes)) = some (some (.agg #[.string ⟨#[]⟩, .string ⟨#[]⟩, .bool false]), 3, 40) := by kernel_rfl

theorem wsameE {w : World} {a : Addr} {v u : Value} (h : w.cell? a = some u) : (w.setCell a v).cell? a = some v := World.cell?_setCell_same w a v h
theorem wotherE {w : World} {a b : Addr} {v : Value} (h : a ≠ b) : (w.setCell a v).cell? b = w.cell? b := World.cell?_setCell_other w a b v h

def setE (w : World) (g o : Nat) (v0 v1 v2 : Value) : World := ((w.setCell ⟨g, o, none⟩ v0).setCell ⟨g, o + 1, none⟩ v1).setCell ⟨g, o + 2, none⟩ v2
theorem setE_other {w : World} {g o p : Nat} {v0 v1 v2 : Value} (h : p < o ∨ o + 3 ≤ p) : (setE w g o v0 v1 v2).cell? ⟨g, p, none⟩ = w.cell? ⟨g, p, none⟩ := by
  unfold setE
  rw [wotherE (by simp <;> omega), wotherE (by simp <;> omega), wotherE (by simp <;> omega)]
theorem setE_hit {w : World} {g o : Nat} {v0 v1 v2 u0 u1 u2 : Value} (h0 : w.cell? ⟨g, o, none⟩ = some u0) (h1 : w.cell? ⟨g, o + 1, none⟩ = some u1) (h2 : w.cell? ⟨g, o + 2, none⟩ = some u2) :
    (setE w g o v0 v1 v2).cell? ⟨g, o, none⟩ = some v0 ∧ (setE w g o v0 v1 v2).cell? ⟨g, o + 1, none⟩ = some v1 ∧ (setE w g o v0 v1 v2).cell? ⟨g, o + 2, none⟩ = some v2 := by
  have k1 : (w.setCell ⟨g, o, none⟩ v0).cell? ⟨g, o + 1, none⟩ = some u1 := by rw [wotherE (by simp)]; exact h1
  have k2 : ((w.setCell ⟨g, o, none⟩ v0).setCell ⟨g, o + 1, none⟩ v1).cell? ⟨g, o + 2, none⟩ = some u2 := by rw [wotherE (by simp), wotherE (by simp)]; exact h2
  unfold setE
  refine ⟨?_, ?_, wsameE k2⟩
  · rw [wotherE (by simp), wotherE (by simp)]; exact wsameE h0
  · rw [wotherE (by simp)]; exact wsameE k1
theorem setE_frozen {w : World} {g o : Nat} {v0 v1 v2 : Value} (a : Addr) : (setE w g o v0 v1 v2).frozen? a = w.frozen? a := by
  unfold setE; simp only [World.frozen?_setCell]
theorem setE_below {w w0 : World} {B g o : Nat} {v0 v1 v2 : Value} (h : Below B w0 w) (hg : B ≤ g) : Below B w0 (setE w g o v0 v1 v2) :=
  ((h.setCell hg _).setCell hg _).setCell hg _
end Go.Proofs.Ytockgapdfcapnaa
